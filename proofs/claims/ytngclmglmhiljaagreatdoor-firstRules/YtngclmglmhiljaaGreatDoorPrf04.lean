/- Texts that the proofs of the First statements stand on, part Prf04. -/
import Derived.Laws.StructEq
import Derived.Laws.Externs
import Derived.Laws.Shifts
import Derived.Laws.Bits
import Derived.Lib.ItoaWalk
import Derived.Lib.ItoaNum
import Derived.Lib.BitFns
import Derived.RegionTactic
import Derived.Laws.OwnMore
import Derived.Test.YtngclmglmhiljaaGreatDoorPrf03
set_option maxHeartbeats 16000000
set_option maxRecDepth 100000
namespace Go.Proofs.YtngclmglmhiljaaGreatDoor
open Go.RowKit
theorem qb3(s:ByteArray)(w:World)(i:s.size<=100)(r:Bool)(c:r=true↔kn s):Calls Tryz.prog 90 #[.string s] w fun e d=>e=.returned (.bool r)/\d=w:=by
 have f:Hid (∀W:World,Calls Tryz.prog 102 #[.string s] W fun e d=>e=.returned (.bool (nameOk (by8 s)))/\d=W):=fun W=>vd s W (by omega)
 by_cases a:s=⟨#[]⟩
 ·have g:=(zo s).2 a;have b:Hid (r=true):=c.2 (.inl a);clear c a;go_enter Tryz.func90,Tryz.ntmps90;go_wp2;go_ret;exact⟨by rw[b.out];rfl,rfl⟩
 ·have g:(s.toList == [])=false:=by
   cases h:(s.toList == [])
   ·rfl
   ·exact absurd ((zo s).1 h) a
  have b:Hid (r=nameOk (by8 s)):=by
   show _=_;rw[Bool.eq_iff_iff,c];unfold kn zp;simp[a]
  generalize nameOk (by8 s)=m at f b;clear c a;go_enter Tryz.func90,Tryz.ntmps90;go_wp2_with(go_at_call 102;refine(f.out _).mono ?_;rintro e w1 ⟨rfl,rfl⟩)
  go_ret;exact⟨by rw[b.out];rfl,rfl⟩
theorem qit(j:Ru)(v:Option Addr)(m:Nat)(w:World)(G:Row w 1 v j.r.length m (strC j.r))(H:j.l.size<=100/\j.p.size<=100/\j.r.length<=100/\∀x∈j.r,x.size<=100)(r:Bool)(V:r=true↔xq j):
  Calls Tryz.prog 105 #[.agg #[.string j.l,.slice v j.r.length m,.string j.p]] w fun e A=>e=.returned (.bool r)/\Below w.heap.size w A:=by
 obtain⟨t,a,u⟩:=j;simp only at G H ⊢;have C:Hid (r=true↔xq ⟨t,a,u⟩):=V;have P:Hid (Row w 1 v a.length m (strC a)):=G;have F:=G.le
 have Z:m<=9223372036854775807:=by have:=G.max;unfold maxLen at this;omega
 have s:=H.2.2.1;have X:Hid (∀x∈a,x.size<=100):=H.2.2.2
 have H1:Hid (∀W:World,Calls Tryz.prog 102 #[.string t] W fun e A=>e=.returned (.bool (nameOk (by8 t)))/\A=W):=fun W=>vd t W (by omega)
 obtain⟨N,z⟩:=zr (kn u)
 have I:Hid (∀W:World,Calls Tryz.prog 90 #[.string u] W fun e A=>e=.returned (.bool N)/\A=W):=fun W=>qb3 u W H.2.1 N z
 have D:Hid (N=true↔kn u):=z;have L:Hid (∀o:Obj,Below w.heap.size w (w.alloc o)):=qb w;clear G H V z
 by_cases q:a.length<=20
 ·obtain⟨n,M⟩:∃n,Hid (a.length=n):=⟨_,rfl⟩
  rw[M.out]at P F s q ⊢
  cases c:nameOk (by8 t)
  ·rw[c]at H1;have g:Hid (r=false):=zb C.out (fun h=>by have:=h.1;unfold zp at this;simp only at this;rw[c]at this;cases this)
   clear c;go_enter Tryz.func105,Tryz.ntmps105;go_wp2_with(first | (go_at_call 102;refine(H1.out _).mono ?_;rintro e w1 ⟨rfl,rfl⟩))
   go_ret;exact⟨by rw[g.out];rfl,L.out _⟩
  ·rw[c]at H1
   cases f:N
   ·rw[f]at I;have g:Hid (r=false):=zb C.out (fun h=>by have:=D.out.2 h.2.2.1;rw[f]at this;cases this)
    clear c f;go_enter Tryz.func105,Tryz.ntmps105;go_wp2_with(first | (go_at_call 102;refine(H1.out _).mono ?_;rintro e w1 ⟨rfl,rfl⟩) | (go_at_call 90;refine(I.out _).mono ?_;rintro e w1 ⟨rfl,rfl⟩))
    go_ret;exact⟨by rw[g.out];rfl,L.out _⟩
   ·rw[f]at I
    have O:Hid (zp t/\kn u/\a.length<=20):=⟨c,D.out.1 f,by rw[M.out];exact q⟩
    clear c f;go_enter Tryz.func105,Tryz.ntmps105;go_wp2_with(first | (go_at_call 102;refine(H1.out _).mono ?_;rintro e w1 ⟨rfl,rfl⟩) | (go_at_call 90;refine(I.out _).mono ?_;rintro e w1 ⟨rfl,rfl⟩))
    have E:Hid (Row (w.alloc (.cells #[.string t,.slice v n m,.string u] 55)) 1 v n m (strC a)/\Below w.heap.size w (w.alloc (.cells #[.string t,.slice v n m,.string u] 55))):=⟨P.out.below (qb _ _),L.out _⟩
    go_loopg [24] n (fun kx s24 wr=>∃k:Nat,s24=.int .i64 k/\k<=n/\n - k<=kx/\Hid ((Row wr 1 v n m (strC a)/\Below w.heap.size w wr)/\∀i x,i<k->a[i]?=some x->zp x))
    case atStart=>exact⟨0,rfl,Nat.zero_le _,by omega,(⟨E.out,fun i x h=>absurd h (Nat.not_lt_zero _)⟩:(Row _ 1 v n m (strC a)/\Below w.heap.size w _)/\∀i x,i<0->a[i]?=some x->zp x)⟩
    case round =>
     obtain⟨k,rfl,hk,hg,J⟩:=hrel;clear E
     by_cases R:k<n
     ·obtain⟨x,B⟩:∃x,a[k]?=some x:=⟨a[k]'(by rw[M.out];exact R),List.getElem?_eq_getElem _⟩
      obtain⟨b,o,rfl,c0⟩:=jm J.out.1.1 B;have T:Hid (a[k]?=some x):=B
      have K:Hid (∀W:World,Calls Tryz.prog 102 #[.string x] W fun e A=>e=.returned (.bool (nameOk (by8 x)))/\A=W):=fun W=>vd x W (by have:=X.out x (List.mem_of_getElem? B);omega)
      clear B
      cases d:nameOk (by8 x)
      ·rw[d]at K;have g:Hid (r=false):=zb C.out (fun h=>by have:=h.2.2.2 x (List.mem_of_getElem? T.out);unfold zp at this;rw[d]at this;cases this)
       clear d;go_wp2_with(go_at_call 102;refine(K.out _).mono ?_;rintro e w2 ⟨rfl,rfl⟩)
       go_ret;exact⟨by rw[g.out];rfl,J.out.1.2⟩
      ·rw[d]at K
       have g:Hid (∀i x,i<k+1->a[i]?=some x->zp x):=fun i y Q S=>by
        rcases Nat.lt_or_ge i k with h | h
        ·exact J.out.2 i y h S
        ·have:i=k:=by omega
         subst this;rw[T.out]at S
         cases S
         exact d
       clear d;go_wp2_with(go_at_call 102;refine(K.out _).mono ?_;rintro e w2 ⟨rfl,rfl⟩)
       go_roundg (n - (k+1))
       case measure=>omega
       case rel=>exact⟨k+1,by simp,by omega,Nat.le_refl _,(⟨J.out.1,g.out⟩:(Row _ 1 (some ⟨b,o,none⟩) n m (strC a)/\Below w.heap.size w _)/\∀i x,i<k+1->a[i]?=some x->zp x)⟩
     ·have g:Hid (r=true):=ky C.out ⟨O.out.1,O.out.2.2,O.out.2.1,fun x B=>by
       obtain⟨i,Q⟩:=List.getElem?_of_mem B;have Y:i<a.length:=(List.getElem?_eq_some_iff.1 Q).1
       exact J.out.2 i x (by rw[M.out]at Y;omega) Q⟩
      go_wp2;go_ret;exact⟨by rw[g.out];rfl,J.out.1.2⟩
 ·have g:Hid (r=false):=zb C.out (fun h=>q h.2.1);generalize a.length=n at F s q ⊢
  have U:(20:Int)<(n:Int):=by omega
  clear P;go_enter Tryz.func105,Tryz.ntmps105;go_wp2;go_ret;exact⟨by rw[g.out];rfl,L.out _⟩
theorem qhd(rs:List Ru)(s:Option Addr)(n c:Nat)(w:World)(H:ks w s n c rs)(F:n=rs.length)(S:n<=1000)(Q:n<=c)(R:c<=9223372036854775807)(I:∀r∈rs,r.l.size<=100/\r.p.size<=100/\r.r.length<=100/\∀x∈r.r,x.size<=100)(r:Bool)(G:r=true↔∀r∈rs,xq r):
  Calls Tryz.prog 91 #[.slice s n c] w fun e B=>e=.returned (.bool r)/\Below w.heap.size w B:=by
 have C:Hid (n=rs.length):=F;have M:Hid (ks w s n c rs):=H;have N:Hid (∀r∈rs,r.l.size<=100/\r.p.size<=100/\r.r.length<=100/\∀x∈r.r,x.size<=100):=I;have D:Hid (r=true↔∀r∈rs,xq r):=G;clear H F I G;go_enter Tryz.func91,Tryz.ntmps91;go_wp2
 go_loopg [7] n (fun kx s7 wr=>∃k:Nat,s7=.int .i64 k/\k<=n/\n - k<=kx/\Hid (Below w.heap.size w wr/\∀i x,i<k->rs[i]?=some x->xq x))
 case atStart=>exact⟨0,rfl,Nat.zero_le _,by omega,(⟨Below.refl _ _,fun i x h=>absurd h (Nat.not_lt_zero _)⟩:Below w.heap.size w _/\∀i x,i<0->rs[i]?=some x->xq x)⟩
 case round =>
  obtain⟨k,rfl,U,T,J⟩:=hrel
  by_cases v:k<n
  ·obtain⟨x,g⟩:∃x,rs[k]?=some x:=⟨rs[k]'(by rw[<-C.out];exact v),List.getElem?_eq_getElem _⟩
   obtain⟨b,o,K,L,rfl,c0,c1,c2,d⟩:=(M.out.below J.out.1).at g;have m:Hid (rs[k]?=some x):=g;obtain⟨q,z⟩:=zr (xq x);have E:Hid (q=true↔xq x):=z
   have j:Hid (∀W:World,Below wr.heap.size wr W->Calls Tryz.prog 105 #[.agg #[.string x.l,.slice K x.r.length L,.string x.p]] W fun e B=>e=.returned (.bool q)/\Below W.heap.size W B):=fun W O=>qit x K L W (d.below O) (N.out x (List.mem_of_getElem? m.out)) q z
   clear g d z
   cases a:q
   ·rw[a]at j;have f:Hid (r=false):=zb D.out (fun h=>by have:=E.out.2 (h x (List.mem_of_getElem? m.out));rw[a]at this;cases this)
    clear a;go_wp2_with(go_at_call 105;refine(j.out _ (qb _ _)).mono ?_;rintro e w2 ⟨rfl,t⟩)
    go_ret;exact⟨by rw[f.out];rfl,qd (qd J.out.1 (qb _ _)) t⟩
   ·rw[a]at j
    have f:Hid (∀i x,i<k+1->rs[i]?=some x->xq x):=fun i y u A=>by
     rcases Nat.lt_or_ge i k with h | h
     ·exact J.out.2 i y h A
     ·have:i=k:=by omega
      subst this;rw[m.out]at A
      cases A
      exact E.out.1 a
    clear a;go_wp2_with(go_at_call 105;refine(j.out _ (qb _ _)).mono ?_;rintro e w2 ⟨rfl,t⟩)
    go_roundg (n - (k+1))
    case measure=>omega
    case rel=>exact⟨k+1,by simp,by omega,Nat.le_refl _,(⟨qd (qd J.out.1 (qb _ _)) t,f.out⟩:Below w.heap.size w _/\∀i x,i<k+1->rs[i]?=some x->xq x)⟩
  ·have f:Hid (r=true):=ky D.out (fun x g=>by
    obtain⟨i,u⟩:=List.getElem?_of_mem g;have P:i<rs.length:=(List.getElem?_eq_some_iff.1 u).1
    exact J.out.2 i x (by rw[<-C.out]at P;omega) u)
   go_wp2;go_ret;exact⟨by rw[f.out];rfl,J.out.1⟩
def kl (ts:List Tk) (k:Nat):Prop:=∀(i:Nat) (t:Tk),i<k->ts[i]?=some t->zp t.n/\∀(j:Nat) (u:Tk),j<i->ts[j]?=some u->u.n≠t.n
theorem kl.zero(ts:List Tk):kl ts 0:=fun _ _ h=>absurd h (Nat.not_lt_zero _)
theorem kl.succ{ts:List Tk}{k:Nat}{t:Tk}(h:kl ts k)(f:ts[k]?=some t)(d:zp t.n)(hd:¬hasN (ts.take k) t.n):kl ts (k+1):=fun i u l a=>by
 rcases Nat.lt_or_ge i k with h1 | h1
 ·exact h i u h1 a
 ·have:i=k:=by omega
  subst this;rw[f]at a
  cases a
  refine⟨d,fun j v c g b=>hd ⟨v,?_,b⟩⟩
  exact List.mem_of_getElem? (i:=j) (by rw[List.getElem?_take,if_pos c];exact g)
theorem kl.all{ts:List Tk}(h:kl ts ts.length):∀(i:Nat) (t:Tk),ts[i]?=some t->zp t.n/\∀(j:Nat) (u:Tk),j<i->ts[j]?=some u->u.n≠t.n :=
 fun i t a=>h i t (List.getElem?_eq_some_iff.1 a).1 a
theorem qnv{ts:List Tk}{k:Nat}{t:Tk}(c:ts[k]?=some t)(hd:hasN (ts.take k) t.n):¬TokP ts:=fun h=>by
 obtain⟨u,d,b⟩:=hd;obtain⟨j,a⟩:=List.getElem?_of_mem d;rw[List.getElem?_take]at a
 split at a
 ·exact(h.1 k t c).2 j u (by assumption) a b
 ·cases a
theorem qgb(ts:List Tk)(D:Option Addr)(n c:Nat)(w:World)(F:Row w 3 D n c (tokC ts))(X:n=ts.length)(P:n<=1000)(Z:∀t∈ts,t.n.size<=100)(r:Bool)(Y:r=true↔TokP ts):
  Calls Tryz.prog 89 #[.slice D n c] w fun e A=>e=.returned (.bool r)/\Below w.heap.size w A:=by
 have E:Hid (n=ts.length):=X;have K:Hid (Row w 3 D n c (tokC ts)):=F;have HS:Hid (∀t∈ts,t.n.size<=100):=Z;have I:Hid (r=true↔TokP ts):=Y;have a0:=F.le
 have a1:c<=9223372036854775807:=by have:=F.max;unfold maxLen at this;omega
 clear F X Z Y;go_enter Tryz.func89,Tryz.ntmps89;go_wp2
 go_loopg [9] n (fun kx s9 wr=>∃k:Nat,s9=.int .i64 k/\k<=n/\n - k<=kx/\Hid (Below w.heap.size w wr/\kl ts k))
 case atStart=>exact⟨0,rfl,Nat.zero_le _,by omega,(⟨Below.refl _ _,kl.zero ts⟩:Below w.heap.size w _/\kl ts 0)⟩
 case round =>
  obtain⟨k,rfl,hk,hg,J⟩:=hrel
  by_cases O:k<n
  ·obtain⟨t,G⟩:∃t,ts[k]?=some t:=⟨ts[k]'(by rw[<-E.out];exact O),List.getElem?_eq_getElem _⟩
   obtain⟨b,o,rfl,c0,c1,c2⟩:=ja (K.out.below J.out.1) G;have L:Hid (ts[k]?=some t):=G;have Q:=HS.out t (List.mem_of_getElem? G);obtain⟨p,S,R⟩:=t;simp only at c0 c1 c2 Q;clear G
   go_upto_region 4 with fail
   have z:Hid (Below w.heap.size w (wr.alloc (.cells #[.string p,.int .i64 S,.int .i64 R] 58))):=qd J.out.1 (qb _ _);have H:Hid (kl ts k):=J.out.2
   have B:(wr.alloc (.cells #[.string p,.int .i64 S,.int .i64 R] 58)).cell? ⟨wr.heap.size,0,none⟩=some (.string p):=by rw[World.cell?_alloc_mark];rfl
   generalize wr.alloc (.cells #[.string p,.int .i64 S,.int .i64 R] 58)=y at z B ⊢;generalize wr.heap.size=tb at B ⊢;clear c0 c1 c2 J;have M:=kh B
   have H1:Hid (∀W:World,Calls Tryz.prog 102 #[.string p] W fun e A=>e=.returned (.bool (nameOk (by8 p)))/\A=W):=fun W=>vd p W (by omega)
   obtain⟨d,hd⟩:=zr (hasN (ts.take k) p);have U:Hid (d=true↔hasN (ts.take k) p):=hd
   have v:Hid (∀W:World,Below y.heap.size y W->Calls Tryz.prog 103 #[.slice (some ⟨b,o,none⟩) k c,.string p] W fun e A=>e=.returned (.bool d)/\Below W.heap.size W A):=fun W hW=>qis (ts.take k) (some ⟨b,o,none⟩) k c p W d hd (qpg (K.out.below (qd z.out hW)) k hk) (by rw[List.length_take,<-E.out];omega) (by omega)
   clear hd
   cases g:nameOk (by8 p)
   ·rw[g]at H1;have x:Hid (r=false):=zb I.out (fun h=>by have:=(h.1 k _ L.out).1;unfold zp at this;simp only at this;rw[g]at this;cases this)
    clear g;refine zv (by kernel_rfl) ?_
    repeat (go_big_quiet_step (first | (go_at_call 102;exact qag (H1.out _)) | (go_at_call 103;exact j5 (v.out _ (ke _ _ _)))))
    refine wpQuiet_nil ?_;intro _ s;obtain⟨⟨nq,f⟩,q⟩:=s;subst q;have a:Hid (Below w.heap.size w (onto y nq f)):=qd z.out (ke _ _ _);simp only;generalize onto y nq f=wz at a ⊢;clear M B H1 v;go_wp2;go_ret;exact⟨by rw[x.out];rfl,a.out⟩
   ·rw[g]at H1
    cases m:d
    ·rw[m]at v;have x:Hid (kl ts (k+1)):=H.out.succ L.out g (fun h=>by have:=U.out.2 h;rw[m]at this;cases this)
     clear g m;refine zv (by kernel_rfl) ?_
     repeat (go_big_quiet_step (first | (go_at_call 102;exact qag (H1.out _)) | (go_at_call 103;exact j5 (v.out _ (ke _ _ _)))))
     refine wpQuiet_nil ?_;intro _ s;obtain⟨⟨nq,f⟩,q⟩:=s;subst q;have a:Hid (Below w.heap.size w (onto y nq f)):=qd z.out (ke _ _ _);simp only;generalize onto y nq f=wz at a ⊢;clear M B H1 v;go_wp2;go_roundg (n - (k+1))
     case measure=>omega
     case rel=>exact⟨k+1,by simp,by omega,Nat.le_refl _,(⟨a.out,x.out⟩:Below w.heap.size w _/\kl ts (k+1))⟩
    ·rw[m]at v;have x:Hid (r=false):=zb I.out (qnv L.out (U.out.1 m));clear g m;refine zv (by kernel_rfl) ?_
     repeat (go_big_quiet_step (first | (go_at_call 102;exact qag (H1.out _)) | (go_at_call 103;exact j5 (v.out _ (ke _ _ _)))))
     refine wpQuiet_nil ?_;intro _ s;obtain⟨⟨nq,f⟩,q⟩:=s;subst q;have a:Hid (Below w.heap.size w (onto y nq f)):=qd z.out (ke _ _ _);simp only;generalize onto y nq f=wz at a ⊢;clear M B H1 v;go_wp2;go_ret;exact⟨by rw[x.out];rfl,a.out⟩
  ·obtain rfl:k=n:=by omega
   have H:Hid (∀(i:Nat) (t:Tk),ts[i]?=some t->zp t.n/\∀(j:Nat) (u:Tk),j<i->ts[j]?=some u->u.n≠t.n):=kl.all (by rw[<-E.out];exact J.out.2)
   have T:=qar ts D k c wr (K.out.below J.out.1) E.out P;have C:Hid (Calls Tryz.prog 104 #[.slice D k c] wr fun e A=>∃(l:List Int) (r:Int),e=.returned (.tuple #[.agg (ar9 l),.bool (decide (r=1))])/\qf8 ts l (decide (r=1))/\Below wr.heap.size wr A):=T;clear T;go_wp2_with fail;refine C.out.mono ?_;rintro e w2 ⟨l,ri,rfl,N,V⟩
   have x:Hid (r=decide (ri=1)):=by
    show _=_;rw[Bool.eq_iff_iff,I.out];unfold TokP;rw[N.2.1];exact⟨fun h=>h.2,fun h=>⟨H.out,h⟩⟩
   have z:Hid (Below w.heap.size w w2):=qd J.out.1 V;obtain⟨xa,xb,xc,xd,xe,xf,xg,xi,xj,rfl⟩:=nine N.1;rw[show ar9 [xa,xb,xc,xd,xe,xf,xg,xi,xj]=#[.int .i64 xa,.int .i64 xb,.int .i64 xc,.int .i64 xd,.int .i64 xe,.int .i64 xf,.int .i64 xg,.int .i64 xi,.int .i64 xj] from rfl];generalize decide (ri=1)=rb at x;clear N V J C;go_wp2_with fail;go_ret;exact⟨by rw[x.out];rfl,qd z.out (qb _ _)⟩
def qju (F:Nat):Prop:=∀(G:Gm) (h:Hd) (w:World) (r:Bool),IsG w h G->(r=true↔MayP G)->Calls Tryz.prog F #[gv h G] w fun e w'=>e=.returned (.bool r)/\Below w.heap.size w w'
theorem kj{w:World}{c:Option Addr}{n a:Nat}{rs:List Ru}(h:ks w c n a rs):n<=a/\a<=9223372036854775807:=by
 obtain⟨qs,-,b,-⟩:=h;have:=b.le;have d:=b.max;unfold maxLen at d;omega
theorem qce:qju 80:=by
 intro G h w r u Z;obtain⟨ts,c,b,rs⟩:=G;obtain⟨l,g,j,k⟩:=h;have C:Hid (r=true↔MayP ⟨ts,c,b,rs⟩):=Z
 have a0:ts.length<=g/\g<=9223372036854775807:=by have S:=u.tok.le;have T:=u.tok.max;simp only at S T;unfold maxLen at T;omega
 have A:=kj u.rul;simp only at A;have a1:ts.length<=100:=u.small.nt;have a2:rs.length<=200:=u.small.nr;have s:Hid (IsG w ⟨l,g,j,k⟩ ⟨ts,c,b,rs⟩):=u;unfold gv;simp only;obtain⟨D,v⟩:=zr (TokP ts);have m:Hid (D=true↔TokP ts):=v;obtain⟨E,x⟩:=zr (kn c);have n:Hid (E=true↔kn c):=x;obtain⟨F,y⟩:=zr (∀r∈rs,xq r);have o:Hid (F=true↔∀r∈rs,xq r):=y
 have H1:Hid (∀W:World,Below w.heap.size w W->Calls Tryz.prog 89 #[.slice l ts.length g] W fun e P=>e=.returned (.bool D)/\Below W.heap.size W P):=fun W Y=>qgb ts l ts.length g W (s.out.tok.below Y) rfl (by omega) s.out.small.tk D v
 have B:Hid (∀W:World,Calls Tryz.prog 90 #[.string c] W fun e P=>e=.returned (.bool E)/\P=W):=fun W=>qb3 c W s.out.small.st E x
 have U:Hid (∀W:World,Below w.heap.size w W->Calls Tryz.prog 91 #[.slice j rs.length k] W fun e P=>e=.returned (.bool F)/\Below W.heap.size W P):=fun W Y=>qhd rs j rs.length k W (s.out.rul.below Y) rfl (by omega) A.1 A.2 s.out.small.rl F y
 have Q:Hid (MayP ⟨ts,c,b,rs⟩↔ts.length<=40/\rs.length<=100/\TokP ts/\kn c/\0<=b/\b<=9999/\∀r∈rs,xq r):=⟨fun h=>⟨h.nt,h.nr,h.tk,h.st,h.e0,h.e1,h.rl⟩,fun⟨S,T,H,I,L,M,N⟩=>⟨S,T,L,M,I,H,N⟩⟩
 clear u Z v x y
 by_cases J:ts.length<=40
 ·by_cases t:rs.length<=100
  ·have d:Hid (r=(D && E && decide (0<=b) && decide (b<=9999) && F)):=by
    show _=_;rw[Bool.eq_iff_iff,C.out,Q.out];simp only[Bool.and_eq_true,decide_eq_true_eq,m.out,n.out,o.out]
    constructor
    ·rintro⟨-,-,H,I,L,M,N⟩;exact⟨⟨⟨⟨H,I⟩,L⟩,M⟩,N⟩
    ·rintro⟨⟨⟨⟨H,I⟩,L⟩,M⟩,N⟩;exact⟨J,t,H,I,L,M,N⟩
   generalize ts.length=q at *
   generalize rs.length=p at *
   clear Q C m n o s;go_enter Tryz.func80,Tryz.ntmps80
   go_upto_region 3 with fail
   have c0:(w.alloc (.cells #[.slice l q g,.string c,.int .i64 b,.slice j p k] 25)).cell? ⟨w.heap.size,0,none⟩=some (.slice l q g):=by rw[World.cell?_alloc_mark];rfl
   have c1:(w.alloc (.cells #[.slice l q g,.string c,.int .i64 b,.slice j p k] 25)).cell? ⟨w.heap.size,1,none⟩=some (.string c):=by rw[World.cell?_alloc_mark];rfl
   have c2:(w.alloc (.cells #[.slice l q g,.string c,.int .i64 b,.slice j p k] 25)).cell? ⟨w.heap.size,2,none⟩=some (.int .i64 b):=by rw[World.cell?_alloc_mark];rfl
   have R:(w.alloc (.cells #[.slice l q g,.string c,.int .i64 b,.slice j p k] 25)).cell? ⟨w.heap.size,3,none⟩=some (.slice j p k):=by rw[World.cell?_alloc_mark];rfl
   have V:Hid (Below w.heap.size w (w.alloc (.cells #[.slice l q g,.string c,.int .i64 b,.slice j p k] 25))):=qb _ _;generalize w.alloc (.cells #[.slice l q g,.string c,.int .i64 b,.slice j p k] 25)=wq at c0 c1 c2 R V ⊢;generalize w.heap.size=gb at c0 c1 c2 R ⊢;go_wp2_with fail;refine(H1.out _ V.out).mono ?_;rintro e w1 ⟨rfl,i⟩;have c1:=qj i c1;have c2:=qj i c2;have R:=qj i R;have f:Hid (Below w.heap.size w w1):=qd V.out i;clear i c0
   cases D
   ·have a:Hid (r=false):=d.out;clear d;go_wp2_with fail;go_ret;exact⟨by rw[a.out];rfl,f.out⟩
   ·cases E
    ·have a:Hid (r=false):=d.out;clear d;go_wp2_with(go_at_call 90;refine(B.out _).mono ?_;rintro e w2 ⟨rfl,rfl⟩)
     go_ret;exact⟨by rw[a.out];rfl,f.out⟩
    ·by_cases z:0<=b
     ·by_cases O:b<=9999
      ·have a:Hid (r=F):=by have:=d.out;rwa [decide_eq_true z,decide_eq_true O]at this
       clear d;go_wp2_with(first | (go_at_call 90;refine(B.out _).mono ?_;rintro e w2 ⟨rfl,rfl⟩) | (go_at_call 91;refine(U.out _ f.out).mono ?_;rintro e w3 ⟨rfl,X⟩))
       go_ret;exact⟨by rw[a.out];rfl,qd f.out X⟩
      ·have a:Hid (r=false):=by have:=d.out;rwa [decide_eq_true z,decide_eq_false O]at this
       clear d;go_wp2_with(first | (go_at_call 90;refine(B.out _).mono ?_;rintro e w2 ⟨rfl,rfl⟩))
       go_ret;exact⟨by rw[a.out];rfl,f.out⟩
     ·have a:Hid (r=false):=by have:=d.out;rwa [decide_eq_false z]at this
      clear d;go_wp2_with(first | (go_at_call 90;refine(B.out _).mono ?_;rintro e w2 ⟨rfl,rfl⟩))
      go_ret;exact⟨by rw[a.out];rfl,f.out⟩
  ·have d:Hid (r=false):=zb C.out (fun h=>t h.nr)
   have S:(100:Int)<(rs.length:Int):=by omega
   have K:¬(40:Int)<(ts.length:Int):=by omega
   generalize ts.length=q at *
   generalize rs.length=p at *
   clear Q C m n o s H1 B U;go_enter Tryz.func80,Tryz.ntmps80;go_wp2_with fail;go_ret;exact⟨by rw[d.out];rfl,qb _ _⟩
 ·have d:Hid (r=false):=zb C.out (fun h=>J h.nt)
  have K:(40:Int)<(ts.length:Int):=by omega
  generalize ts.length=q at *
  generalize rs.length=p at *
  clear Q C m n o s H1 B U;go_enter Tryz.func80,Tryz.ntmps80;go_wp2_with fail;go_ret;exact⟨by rw[d.out];rfl,qb _ _⟩
theorem qda{α:Type}{a b:List α}(f:a.length=b.length)(h:∀(i:Nat) (x y:α),a[i]?=some x->b[i]?=some y->x=y):a=b:=by
 apply List.ext_getElem f
 intro i c d;exact h i _ _ (List.getElem?_eq_getElem c) (List.getElem?_eq_getElem d)
theorem qk1(l m:List ByteArray)(E:Option Addr)(a s:Nat)(F:Option Addr)(c t:Nat)(w:World)(z:Row w 1 E a s (strC l))(A:Row w 1 F c t (strC m))(N:a=l.length)(O:c=m.length)(hn:a<=1000)(r:Bool)(Q:r=true↔l=m):
  Calls Tryz.prog 166 #[.slice E a s,.slice F c t] w fun e T=>e=.returned (.bool r)/\Below w.heap.size w T:=by
 have f:Hid (a=l.length/\c=m.length):=⟨N,O⟩
 have C:Hid (r=true↔l=m):=Q
 have M:Hid (Row w 1 E a s (strC l)/\Row w 1 F c t (strC m)):=⟨z,A⟩
 have q1:a<=s/\s<=9223372036854775807:=by have:=z.le;have h:=z.max;unfold maxLen at h;omega
 have q2:c<=t/\t<=9223372036854775807:=by have:=A.le;have h:=A.max;unfold maxLen at h;omega
 clear N O Q z A
 by_cases d:a=c
 ·have S:((a:Int) != (c:Int))=false:=by simp[d]
  go_enter Tryz.func166,Tryz.ntmps166;go_wp2
  go_loopg [13] a (fun kx s13 wr=>∃k:Nat,s13=.int .i64 k/\k<=a/\a - k<=kx/\Hid (Below w.heap.size w wr/\∀(i:Nat) (x y:ByteArray),i<k->l[i]?=some x->m[i]?=some y->x=y))
  case atStart=>exact⟨0,rfl,Nat.zero_le _,by omega,(⟨Below.refl _ _,fun i x y h=>absurd h (Nat.not_lt_zero _)⟩:Below w.heap.size w _/\∀(i:Nat) (x y:ByteArray),i<0->l[i]?=some x->m[i]?=some y->x=y)⟩
  case round =>
   obtain⟨k,rfl,hk,Z,J⟩:=hrel
   by_cases G:k<a
   ·obtain⟨x,p⟩:∃x,l[k]?=some x:=⟨l[k]'(by rw[<-f.out.1];exact G),List.getElem?_eq_getElem _⟩
    obtain⟨y,q⟩:∃y,m[k]?=some y:=⟨m[k]'(by rw[<-f.out.2];omega),List.getElem?_eq_getElem _⟩
    obtain⟨U,o1,rfl,c1⟩:=jm (M.out.1.below J.out.1) p;obtain⟨V,o2,rfl,c2⟩:=jm (M.out.2.below J.out.1) q
    have D:Hid (l[k]?=some x/\m[k]?=some y):=⟨p,q⟩
    clear p q
    have P:k<c:=by omega
    go_upto_region 6 with fail
    have X:=kh c1;have Y:=kh c2
    have L:Hid (∀n os,Below w.heap.size w (onto wr n os)):=fun n os=>qd J.out.1 (ke wr n os)
    by_cases b:x=y
    ·have R:(x.toList == y.toList)=true:=xh b
     have g:Hid (∀(i:Nat) (x y:ByteArray),i<k+1->l[i]?=some x->m[i]?=some y->x=y):=fun i u v hi H I=>by
      rcases Nat.lt_or_ge i k with h | h
      ·exact J.out.2 i u v h H I
      ·have:i=k:=by omega
       subst this;rw[D.out.1]at H;rw[D.out.2]at I
       cases H;cases I
       exact b
     clear b J;refine zv (by kernel_rfl) ?_
     repeat (go_big_quiet_step (fail))
     refine wpQuiet_nil ?_;intro _ o;obtain⟨⟨nq,K⟩,j⟩:=o;subst j;simp only;go_wp2_with fail;go_roundg (a - (k+1))
     case measure=>omega
     case rel=>exact⟨k+1,by simp,by omega,Nat.le_refl _,(⟨L.out _ _,g.out⟩:Below w.heap.size w _/\∀(i:Nat) (x y:ByteArray),i<k+1->l[i]?=some x->m[i]?=some y->x=y)⟩
    ·have R:(x.toList == y.toList)=false:=k9 b;have g:Hid (r=false):=zb C.out (fun h=>by have B:=D.out;rw[h]at B;rw[B.1]at B;exact b (Option.some.inj B.2))
     clear b J;refine zv (by kernel_rfl) ?_
     repeat (go_big_quiet_step (fail))
     refine wpQuiet_nil ?_;intro _ o;obtain⟨⟨nq,K⟩,j⟩:=o;subst j;simp only;go_wp2_with fail;go_ret;exact⟨by rw[g.out];rfl,L.out _ _⟩
   ·have g:Hid (r=true):=ky C.out (qda (by rw[<-f.out.1,<-f.out.2];exact d) (fun i x y p q=>J.out.2 i x y (by have:=(List.getElem?_eq_some_iff.1 p).1;rw[<-f.out.1]at this;omega) p q))
    go_wp2;go_ret;exact⟨by rw[g.out];rfl,J.out.1⟩
 ·have S:((a:Int) != (c:Int))=true:=by simp;omega
  have g:Hid (r=false):=zb C.out (fun h=>d (by rw[f.out.1,f.out.2,h]));clear d;go_enter Tryz.func166,Tryz.ntmps166;go_wp2;go_ret;exact⟨by rw[g.out];rfl,Below.refl _ _⟩
theorem qmr:Tryz.prog.underlying 58=some (.struct (Tryz.prog.fieldsOf 58)):=by kernel_rfl
theorem qph:Tryz.prog.stoodInHeld 58=false:=by kernel_rfl
theorem qnw:Tryz.prog.eqGuardType Tryz.prog.depth 58=false:=by kernel_rfl
theorem qr1:(Tryz.prog.fieldsOf 58).toList=[ ⟨ "Name", 9,0,false, "", "", 0⟩,⟨ "Level", 3,1,false, "", "", 16⟩,⟨ "Assoc", 3,2,false, "", "", 24⟩]:=by kernel_rfl
theorem qez(n m:ByteArray)(a b c d:Int)(W:World):(binOp .neq 58 (.agg #[.string n,.int .i64 a,.int .i64 b]) (.agg #[.string m,.int .i64 c,.int .i64 d])).run Tryz.prog W=.ok (.bool (!((n.toList == m.toList) && (a == c) && (b == d)))) W:=by
 rw[run_neq_struct,run_equalIn_agg _ _ _ _ _ qmr qph,qr1];simp[go_sem,Tryz.underlying9,Tryz.underlying3]
 by_cases f:n.toList=m.toList
 ·by_cases g:a=c
  ·by_cases h:b=d
   ·simp[f,g,h]
   ·simp[f,g,h]
  ·simp[f,g]
 ·simp[f]
theorem qh0(n m:ByteArray)(a b c d:Int):((⟨n,a,b⟩:Tk)=⟨m,c,d⟩)↔((n.toList == m.toList)=true/\a=c/\b=d):=by
 rw[j3]
 constructor
 ·intro h;cases h;exact⟨rfl,rfl,rfl⟩
 ·rintro⟨rfl,rfl,rfl⟩;rfl
theorem qk2(l m:List Tk)(M:Option Addr)(a G:Nat)(N:Option Addr)(c H:Nat)(w:World)(p:Row w 3 M a G (tokC l))(q:Row w 3 N c H (tokC m))(Z:a=l.length)(e2:c=m.length)(hn:a<=1000)(r:Bool)(hp:r=true↔l=m):
  Calls Tryz.prog 151 #[.slice M a G,.slice N c H] w fun e w'=>e=.returned (.bool r)/\Below w.heap.size w w':=by
 have f:Hid (a=l.length/\c=m.length):=⟨Z,e2⟩
 have K:Hid (r=true↔l=m):=hp
 have Y:Hid (Row w 3 M a G (tokC l)/\Row w 3 N c H (tokC m)):=⟨p,q⟩
 have q1:a<=G/\G<=9223372036854775807:=by have:=p.le;have h:=p.max;unfold maxLen at h;omega
 have q2:c<=H/\H<=9223372036854775807:=by have:=q.le;have h:=q.max;unfold maxLen at h;omega
 clear Z e2 hp p q
 by_cases d:a=c
 ·have s:((a:Int) != (c:Int))=false:=by simp[d]
  go_enter Tryz.func151,Tryz.ntmps151;go_wp2
  go_loopg [13] a (fun kx s13 wr=>∃k:Nat,s13=.int .i64 k/\k<=a/\a - k<=kx/\Hid (Below w.heap.size w wr/\∀(i:Nat) (x y:Tk),i<k->l[i]?=some x->m[i]?=some y->x=y))
  case atStart=>exact⟨0,rfl,Nat.zero_le _,by omega,(⟨Below.refl _ _,fun i x y h=>absurd h (Nat.not_lt_zero _)⟩:Below w.heap.size w _/\∀(i:Nat) (x y:Tk),i<0->l[i]?=some x->m[i]?=some y->x=y)⟩
  case round =>
   obtain⟨k,rfl,hk,hg,J⟩:=hrel
   by_cases S:k<a
   ·obtain⟨x,t⟩:∃x,l[k]?=some x:=⟨l[k]'(by rw[<-f.out.1];exact S),List.getElem?_eq_getElem _⟩
    obtain⟨y,F⟩:∃y,m[k]?=some y:=⟨m[k]'(by rw[<-f.out.2];omega),List.getElem?_eq_getElem _⟩
    obtain⟨b1,o1,rfl,c1,O,Q⟩:=ja (Y.out.1.below J.out.1) t;obtain⟨b2,o2,rfl,c2,P,R⟩:=ja (Y.out.2.below J.out.1) F
    have L:Hid (l[k]?=some x/\m[k]?=some y):=⟨t,F⟩
    clear t F
    have a0:k<c:=by omega
    obtain⟨B,A,z⟩:=x;obtain⟨E,D,C⟩:=y;simp only at c1 O Q c2 P R
    go_upto_region 6 with fail
    have g1:=kh c1;have g2:=kh c2;have g3:=kh O;have g4:=kh P;have g5:=kh Q;have g6:=kh R
    have a3:∀(W:World) (x y:Operand),(eqGuard .neq 58 x y (.agg #[.string B,.int .i64 A,.int .i64 z]) (.agg #[.string E,.int .i64 D,.int .i64 C])).run Tryz.prog W=.ok () W:=fun W x y=>run_eqGuard_agg W .neq 58 x y _ _ qnw
    have X:Hid (∀n os,Below w.heap.size w (onto wr n os)):=fun n os=>qd J.out.1 (ke wr n os)
    clear c1 c2 O P Q R
    by_cases b:(⟨B,A,z⟩:Tk)=⟨E,D,C⟩
    ·have e3:∀W:World,(binOp .neq 58 (.agg #[.string B,.int .i64 A,.int .i64 z]) (.agg #[.string E,.int .i64 D,.int .i64 C])).run Tryz.prog W=.ok (.bool false) W:=fun W=>by
      rw[qez];obtain⟨p,q,h3⟩:=(qh0 _ _ _ _ _ _).1 b;rw[p,q,h3];simp
     have g:Hid (∀(i:Nat) (x y:Tk),i<k+1->l[i]?=some x->m[i]?=some y->x=y):=fun i u v hi T U=>by
      rcases Nat.lt_or_ge i k with h | h
      ·exact J.out.2 i u v h T U
      ·have:i=k:=by omega
       subst this;rw[L.out.1]at T;rw[L.out.2]at U
       cases T;cases U
       exact b
     clear b J;refine zv (by kernel_rfl) ?_
     repeat (go_big_quiet_step (fail))
     refine wpQuiet_nil ?_;intro _ o;obtain⟨⟨nq,V⟩,j⟩:=o;subst j;simp only;go_wp2_with fail;go_roundg (a - (k+1))
     case measure=>omega
     case rel=>exact⟨k+1,by simp,by omega,Nat.le_refl _,(⟨X.out _ _,g.out⟩:Below w.heap.size w _/\∀(i:Nat) (x y:Tk),i<k+1->l[i]?=some x->m[i]?=some y->x=y)⟩
    ·have e3:∀W:World,(binOp .neq 58 (.agg #[.string B,.int .i64 A,.int .i64 z]) (.agg #[.string E,.int .i64 D,.int .i64 C])).run Tryz.prog W=.ok (.bool true) W:=fun W=>by
      rw[qez]
      have h0:((B.toList == E.toList) && (A == D) && (z == C))=false:=by
       cases s:((B.toList == E.toList) && (A == D) && (z == C))
       ·rfl
       ·rw[Bool.and_eq_true,Bool.and_eq_true]at s;exact absurd ((qh0 _ _ _ _ _ _).2 ⟨s.1.1,by simpa using s.1.2,by simpa using s.2⟩) b
      rw[h0];rfl
     have g:Hid (r=false):=zb K.out (fun h=>by have I:=L.out;rw[h]at I;rw[I.1]at I;exact b (Option.some.inj I.2))
     clear b J;refine zv (by kernel_rfl) ?_
     repeat (go_big_quiet_step (fail))
     refine wpQuiet_nil ?_;intro _ o;obtain⟨⟨nq,V⟩,j⟩:=o;subst j;simp only;go_wp2_with fail;go_ret;exact⟨by rw[g.out];rfl,X.out _ _⟩
   ·have g:Hid (r=true):=ky K.out (qda (by rw[<-f.out.1,<-f.out.2];exact d) (fun i x y t F=>J.out.2 i x y (by have:=(List.getElem?_eq_some_iff.1 t).1;rw[<-f.out.1]at this;omega) t F))
    go_wp2;go_ret;exact⟨by rw[g.out];rfl,J.out.1⟩
 ·have s:((a:Int) != (c:Int))=true:=by simp;omega
  have g:Hid (r=false):=zb K.out (fun h=>d (by rw[f.out.1,f.out.2,h]));clear d;go_enter Tryz.func151,Tryz.ntmps151;go_wp2;go_ret;exact⟨by rw[g.out];rfl,Below.refl _ _⟩
theorem qhe(x y:Ru)(s t:Option Addr)(b c:Nat)(w:World)(f:Row w 1 s x.r.length b (strC x.r))(g:Row w 1 t y.r.length c (strC y.r))(L:x.r.length<=100)(r:Bool)(E:r=true↔x=y):
  Calls Tryz.prog 153 #[.agg #[.string x.l,.slice s x.r.length b,.string x.p],.agg #[.string y.l,.slice t y.r.length c,.string y.p]] w fun e A=>e=.returned (.bool r)/\Below w.heap.size w A:=by
 obtain⟨G,i,H⟩:=x;obtain⟨I,j,J⟩:=y;simp only at f g L ⊢;obtain⟨q,z⟩:=zr (i=j)
 have K:Hid (∀W:World,Below w.heap.size w W->Calls Tryz.prog 166 #[.slice s i.length b,.slice t j.length c] W fun e A=>e=.returned (.bool q)/\Below W.heap.size W A):=fun W D=>qk1 i j s _ b t _ c W (f.below D) (g.below D) rfl rfl (by omega) q z
 have a:Hid (r=((G.toList == I.toList) && (H.toList == J.toList) && q)):=by
  show _=_;rw[Bool.eq_iff_iff,E,Bool.and_eq_true,Bool.and_eq_true,j3,j3,z]
  constructor
  ·intro h;cases h;exact⟨⟨rfl,rfl⟩,rfl⟩
  ·rintro⟨⟨rfl,rfl⟩,rfl⟩;rfl
 have M:i.length<=b/\b<=9223372036854775807:=by have:=f.le;have h:=f.max;unfold maxLen at h;omega
 have N:j.length<=c/\c<=9223372036854775807:=by have:=g.le;have h:=g.max;unfold maxLen at h;omega
 have k:Hid (∀o F:Obj,Below w.heap.size w ((w.alloc o).alloc F)):=fun o F=>qd (qb _ _) (qb _ _)
 generalize i.length=n at *
 generalize j.length=m at *
 clear f g E z
 cases v:(G.toList == I.toList)
 ·have d:Hid (r=false):=by have:=a.out;rwa [v]at this
  clear a;go_enter Tryz.func153,Tryz.ntmps153;go_wp2_with fail;go_ret;exact⟨by rw[d.out];rfl,k.out _ _⟩
 ·cases B:(H.toList == J.toList)
  ·have d:Hid (r=false):=by have:=a.out;rwa [v,B]at this
   clear a;go_enter Tryz.func153,Tryz.ntmps153;go_wp2_with fail;go_ret;exact⟨by rw[d.out];rfl,k.out _ _⟩
  ·have d:Hid (r=q):=by have:=a.out;rwa [v,B]at this
   clear a;go_enter Tryz.func153,Tryz.ntmps153;go_wp2_with fail;refine(K.out _ (k.out _ _)).mono ?_;rintro e w1 ⟨rfl,C⟩;have u:Hid (Below w.heap.size w w1):=qd (k.out _ _) C;clear C;go_wp2_with fail;go_ret;exact⟨by rw[d.out];rfl,u.out⟩
theorem qiu(l m:List Ru)(F:Option Addr)(a N:Nat)(G:Option Addr)(c O:Nat)(w:World)(H:ks w F a N l)(I:ks w G c O m)(S:a=l.length)(T:c=m.length)(hn:a<=1000)(Y:∀x∈l,x.r.length<=100)(r:Bool)(X:r=true↔l=m):
  Calls Tryz.prog 152 #[.slice F a N,.slice G c O,.func (.func 153) #[] #[]] w fun e P=>e=.returned (.bool r)/\Below w.heap.size w P:=by
 have f:Hid (a=l.length/\c=m.length):=⟨S,T⟩
 have E:Hid (r=true↔l=m):=X
 have R:Hid (ks w F a N l/\ks w G c O m):=⟨H,I⟩
 have HS:Hid (∀x∈l,x.r.length<=100):=Y;have q1:=kj H;have q2:=kj I;clear S T X H I Y
 by_cases b:a=c
 ·have hb:((a:Int) != (c:Int))=false:=by simp[b]
  have j:Hid (a=c):=b;clear b;go_enter Tryz.func152,Tryz.ntmps152;go_wp2
  go_loopg [17] a (fun kx s17 wr=>∃k:Nat,s17=.int .i64 k/\k<=a/\a - k<=kx/\Hid (Below w.heap.size w wr/\∀(i:Nat) (x y:Ru),i<k->l[i]?=some x->m[i]?=some y->x=y))
  case atStart=>exact⟨0,rfl,Nat.zero_le _,by omega,(⟨Below.refl _ _,fun i x y h=>absurd h (Nat.not_lt_zero _)⟩:Below w.heap.size w _/\∀(i:Nat) (x y:Ru),i<0->l[i]?=some x->m[i]?=some y->x=y)⟩
  case round =>
   obtain⟨k,rfl,hk,hg,J⟩:=hrel
   by_cases n:k<a
   ·obtain⟨x,o⟩:∃x,l[k]?=some x:=⟨l[k]'(by rw[<-f.out.1];exact n),List.getElem?_eq_getElem _⟩
    obtain⟨y,A⟩:∃y,m[k]?=some y:=⟨m[k]'(by rw[<-f.out.2,<-j.out];exact n),List.getElem?_eq_getElem _⟩
    obtain⟨b1,o1,Z,xc,rfl,c1,d1,f1,t⟩:=(R.out.1.below J.out.1).at o;obtain⟨b2,o2,ya,yc,rfl,c2,d2,f2,z⟩:=(R.out.2.below J.out.1).at A
    have C:Hid (l[k]?=some x/\m[k]?=some y):=⟨o,A⟩
    obtain⟨q,K⟩:=zr (x=y)
    have B:Hid (∀W:World,Below wr.heap.size wr W->Calls Tryz.prog 153 #[.agg #[.string x.l,.slice Z x.r.length xc,.string x.p],.agg #[.string y.l,.slice ya y.r.length yc,.string y.p]] W fun e P=>e=.returned (.bool q)/\Below W.heap.size W P):=fun W U=>qhe x y Z ya xc yc W (t.below U) (z.below U) (HS.out x (List.mem_of_getElem? C.out.1)) q K
    have Q:Hid (q=true↔x=y):=K;clear o A t z K
    have V:k<c:=by rw[<-j.out];exact n
    have a0:=qo c2;have a3:=qo d2;have a4:=qo f2
    cases q
    ·have g:Hid (r=false):=zb E.out (fun h=>by
      have D:=C.out;rw[h]at D;rw[D.1]at D;have:=Q.out.2 (Option.some.inj D.2)
      cases this)
     go_wp2_with fail;refine(B.out _ (qd (qb _ _) (qb _ _))).mono ?_;rintro e w1 ⟨rfl,s⟩;have d:Hid (Below w.heap.size w w1):=qd (qd J.out.1 (qd (qb _ _) (qb _ _))) s;clear s B J;go_wp2_with fail;go_ret;exact⟨by rw[g.out];rfl,d.out⟩
    ·have g:Hid (∀(i:Nat) (x y:Ru),i<k+1->l[i]?=some x->m[i]?=some y->x=y):=fun i u v hi L M=>by
      rcases Nat.lt_or_ge i k with h | h
      ·exact J.out.2 i u v h L M
      ·have:i=k:=by omega
       subst this;rw[C.out.1]at L;rw[C.out.2]at M
       cases L;cases M
       exact Q.out.1 rfl
     go_wp2_with fail;refine(B.out _ (qd (qb _ _) (qb _ _))).mono ?_;rintro e w1 ⟨rfl,s⟩;have d:Hid (Below w.heap.size w w1):=qd (qd J.out.1 (qd (qb _ _) (qb _ _))) s;clear s B J;go_wp2_with fail;go_roundg (a - (k+1))
     case measure=>omega
     case rel=>exact⟨k+1,by simp,by omega,Nat.le_refl _,(⟨d.out,g.out⟩:Below w.heap.size w _/\∀(i:Nat) (x y:Ru),i<k+1->l[i]?=some x->m[i]?=some y->x=y)⟩
   ·have g:Hid (r=true):=ky E.out (qda (by rw[<-f.out.1,<-f.out.2];exact j.out) (fun i x y o A=>J.out.2 i x y (by have:=(List.getElem?_eq_some_iff.1 o).1;rw[<-f.out.1]at this;omega) o A))
    go_wp2;go_ret;exact⟨by rw[g.out];rfl,J.out.1⟩
 ·have hb:((a:Int) != (c:Int))=true:=by simp;omega
  have g:Hid (r=false):=zb E.out (fun h=>b (by rw[f.out.1,f.out.2,h]));clear b;go_enter Tryz.func152,Tryz.ntmps152;go_wp2;go_ret;exact⟨by rw[g.out];rfl,Below.refl _ _⟩
def qq0 (F:Nat):Prop:=∀(G K:Gm) (h k:Hd) (w:World) (r:Bool),IsG w h G->IsG w k K->(r=true↔G=K)->Calls Tryz.prog F #[gv h G,gv k K] w fun e w'=>e=.returned (.bool r)/\Below w.heap.size w w'
theorem qjv:qq0 127:=by
 intro G K h k w r a y V;obtain⟨ts,z,u,rs⟩:=G;obtain⟨B,c,n,p⟩:=h;obtain⟨us,A,v,M⟩:=K;obtain⟨C,d,q,s⟩:=k
 have Z:ts.length<=c/\c<=9223372036854775807:=by have Q:=a.tok.le;have D:=a.tok.max;simp only at Q D;unfold maxLen at D;omega
 have a0:us.length<=d/\d<=9223372036854775807:=by have Q:=y.tok.le;have D:=y.tok.max;simp only at Q D;unfold maxLen at D;omega
 have R:=kj a.rul;have S:=kj y.rul;simp only at R S;have a1:ts.length<=100:=a.small.nt;have a2:rs.length<=200:=a.small.nr;unfold gv;simp only;obtain⟨F,l⟩:=zr (ts=us);obtain⟨H,m⟩:=zr (rs=M)
 have H1:Hid (∀W:World,Below w.heap.size w W->Calls Tryz.prog 151 #[.slice B ts.length c,.slice C us.length d] W fun e T=>e=.returned (.bool F)/\Below W.heap.size W T):=fun W E=>qk2 ts us B _ c C _ d W (a.tok.below E) (y.tok.below E) rfl rfl (by simp only;omega) F l
 have Y:Hid (∀W:World,Below w.heap.size w W->Calls Tryz.prog 152 #[.slice n rs.length p,.slice q M.length s,.func (.func 153) #[] #[]] W fun e T=>e=.returned (.bool H)/\Below W.heap.size W T):=fun W E=>qiu rs M n _ p q _ s W (a.rul.below E) (y.rul.below E) rfl rfl (by simp only;omega) (fun x hx=>(a.small.rl x hx).2.2.1) H m
 have t:Hid (r=((z.toList == A.toList) && (u == v) && F && H)):=by
  show _=_;rw[Bool.eq_iff_iff,V,Bool.and_eq_true,Bool.and_eq_true,Bool.and_eq_true,j3,l,m,beq_iff_eq]
  constructor
  ·intro h;cases h;exact⟨⟨⟨rfl,rfl⟩,rfl⟩,rfl⟩
  ·rintro⟨⟨⟨rfl,rfl⟩,rfl⟩,rfl⟩;rfl
 have L:Hid (∀o X:Obj,Below w.heap.size w ((w.alloc o).alloc X)):=fun o X=>qd (qb _ _) (qb _ _)
 clear a y V l m
 generalize ts.length=N at *
 generalize us.length=un at *
 generalize rs.length=I at *
 generalize M.length=J at *
 cases P:(z.toList == A.toList)
 ·have b:Hid (r=false):=by have:=t.out;rwa [P]at this
  clear t;go_enter Tryz.func127,Tryz.ntmps127;go_wp2_with fail;go_ret;exact⟨by rw[b.out];rfl,L.out _ _⟩
 ·cases U:(u == v)
  ·have b:Hid (r=false):=by have:=t.out;rwa [P,U]at this
   clear t;go_enter Tryz.func127,Tryz.ntmps127;go_wp2_with fail;go_ret;exact⟨by rw[b.out];rfl,L.out _ _⟩
  ·have b:Hid (r=(F && H)):=by have:=t.out;rwa [P,U]at this
   clear t;go_enter Tryz.func127,Tryz.ntmps127
   go_upto_region 1 with fail
   have c0:((w.alloc (.cells #[.slice B N c,.string z,.int .i64 u,.slice n I p] 25)).alloc (.cells #[.slice C un d,.string A,.int .i64 v,.slice q J s] 25)).cell? ⟨w.heap.size,3,none⟩=some (.slice n I p):=qo (by rw[World.cell?_alloc_mark];rfl) _
   have c1:((w.alloc (.cells #[.slice B N c,.string z,.int .i64 u,.slice n I p] 25)).alloc (.cells #[.slice C un d,.string A,.int .i64 v,.slice q J s] 25)).cell? ⟨w.heap.size+1,3,none⟩=some (.slice q J s):=by
    have:=World.cell?_alloc_mark (w.alloc (.cells #[.slice B N c,.string z,.int .i64 u,.slice n I p] 25)) #[.slice C un d,.string A,.int .i64 v,.slice q J s] 25 (0,0) 3;rw[qt]at this;rw[this];rfl
   have g:Hid (Below w.heap.size w ((w.alloc (.cells #[.slice B N c,.string z,.int .i64 u,.slice n I p] 25)).alloc (.cells #[.slice C un d,.string A,.int .i64 v,.slice q J s] 25))):=L.out _ _;go_wp2_with fail;refine(H1.out _ g.out).mono ?_;rintro e w1 ⟨rfl,j⟩;have c0:=qj j c0;have c1:=qj j c1;have f:Hid (Below w.heap.size w w1):=qd g.out j;clear j g L
   cases F
   ·have i:Hid (r=false):=b.out;clear b;go_wp2_with fail;go_ret;exact⟨by rw[i.out];rfl,f.out⟩
   ·have i:Hid (r=H):=b.out;clear b;go_wp2_with fail;refine(Y.out _ f.out).mono ?_;rintro e w2 ⟨rfl,j⟩;have O:Hid (Below w.heap.size w w2):=qd f.out j;clear j;go_wp2_with fail;go_ret;exact⟨by rw[i.out];rfl,O.out⟩
theorem Tryz.size165:(Tryz.prog.info? 165).map (·.size)=some 2:=by kernel_rfl
theorem Tryz.lies165:liesAt Tryz.prog Tryz.prog.depth 165 (2 / Tryz.prog.cellsOf 165) 0 165 1=true:=by kernel_rfl
theorem qal(b:Nat)(v:Value)(l:List UInt8)(w:World)(h:Bld w b v l):
  Calls Tryz.prog 173 #[.pointer (some ⟨b,0,none⟩)] w fun e k=>e=.returned (.tuple #[])/\k.heap[b]?=some (.cells #[.pointer (some ⟨b,0,none⟩),v] 165 (0,0))/\Bld k b v l/\za w b v k v:=by
 obtain⟨j,f,g⟩:=Option.map_eq_some_iff.1 Tryz.size165;obtain⟨p,a,rfl | rfl⟩:=h.head
 ·have n:w.cell? ⟨b,0,none⟩=some (.pointer none):=by rw[qe a];rfl
  have c:w.shape? b=some (165,2):=by simp[World.shape?,a]
  have o:w.frozen? ⟨b,0,none⟩=false:=qi a 0
  have d:Hid ((w.setCell ⟨b,0,none⟩ (.pointer (some ⟨b,0,none⟩))).heap[b]?=some (.cells #[.pointer (some ⟨b,0,none⟩),v] 165 (0,0))/\Bld (w.setCell ⟨b,0,none⟩ (.pointer (some ⟨b,0,none⟩))) b v l/\za w b v (w.setCell ⟨b,0,none⟩ (.pointer (some ⟨b,0,none⟩))) v):=by
   have m:(w.setCell ⟨b,0,none⟩ (.pointer (some ⟨b,0,none⟩))).heap[b]?=some (.cells #[.pointer (some ⟨b,0,none⟩),v] 165 (0,0)):=by simp[World.setCell,Array.getElem?_modify,a]
   refine⟨m,⟨⟨_,m,.inr rfl⟩,qh h.own (fun i q=>Below.heap_setCell _ _ _ _ (fun e=>by subst e;exact h.apart q)),h.apart⟩,⟨(Kept.refl _ _).setCell _ _ (fun _=>.inl rfl),fun _ h=>.inl h⟩⟩
  clear a h;go_enter Tryz.func173,Tryz.ntmps173;go_wp2;rw[Lib.run_to_unsafe w ⟨b,0,none⟩ Tryz.underlying163 Tryz.underlying199 f (by rw[g];decide) c (Nat.zero_lt_succ 1)]
  simp only[Result.andThen];rw[Oper.upon_value];go_wp2;rw[run_callFunc_extern Tryz.func182 (by kernel_rfl) (by kernel_rfl) (by kernel_rfl) (e:=Extern.AbiNoEscape.same) (by kernel_rfl)];rw[Lib.run_noEscape];simp only[Result.andThen];rw[Oper.upon_value];go_wp2;rw[Lib.run_from_unsafe w ⟨b,0,none⟩ Tryz.underlying199 Tryz.underlying163 f c Tryz.lies165];simp only[Result.andThen];rw[Oper.upon_value];go_wp2;go_end0;exact⟨rfl,d.out⟩
 ·have n:w.cell? ⟨b,0,none⟩=some (.pointer (some ⟨b,0,none⟩)):=by rw[qe a];rfl
  have d:Hid (w.heap[b]?=some (.cells #[.pointer (some ⟨b,0,none⟩),v] 165 (0,0))/\Bld w b v l):=⟨a,h⟩
  clear a h;go_enter Tryz.func173,Tryz.ntmps173;go_wp2;rw[Lib.run_neq_ptr_same w _ Tryz.underlying163 f];go_wp2;go_end0;exact⟨rfl,d.out.1,d.out.2,za.refl _ _ _⟩
theorem qd9{w:World}{b:Nat}{o a:Obj}(h:w.heap[b]?=some o):(w.alloc a).heap[b]?=some o:=by
 rw[Below.heap_alloc _ _ _ (Array.getElem?_eq_some_iff.1 h).1];exact h
theorem qhf{w w1 w2:World}{b:Nat}{v v':Value}{l l':List UInt8}(m:w1.heap[b]?=some (.cells #[.pointer (some ⟨b,0,none⟩),v] 165 (0,0)))(h:Bld w1 b v l)(o:za w b v w1 v)(a:w2.ownsRow 0 5 1 v' l'.length (Lib.byteCells l'))(n:Kept (fun k=>v.ownBlock=some k) w1 w2)(q:∀k,v'.ownBlock=some k->v.ownBlock=some k\/w1.heap.size<=k):
  Bld (w2.setCell ⟨b,1,none⟩ v') b v' l'/\za w b v (w2.setCell ⟨b,1,none⟩ v') v':=by
 have g:b<w1.heap.size:=(Array.getElem?_eq_some_iff.1 m).1
 have j:w2.heap[b]?=some (.cells #[.pointer (some ⟨b,0,none⟩),v] 165 (0,0)):=by rw[n.block b g h.apart];exact m
 have c:v'.ownBlock≠some b:=Lib.ownBlock_ne a j (by decide)
 have p:(w2.setCell ⟨b,1,none⟩ v').heap[b]?=some (.cells #[.pointer (some ⟨b,0,none⟩),v'] 165 (0,0)):=by simp[World.setCell,Array.getElem?_modify,j]
 refine⟨⟨⟨_,p,.inr rfl⟩,qh a (fun i d=>Below.heap_setCell _ _ _ _ (fun e=>by subst e;exact c d)),c⟩,?_,fun k f=>?_⟩
 ·exact(o.1.trans n (fun i _ d=>.inr d)).setCell _ _ (fun _=>.inl rfl)
 ·rcases q k f with h1 | h1
  ·exact .inl h1
  ·exact .inr (Nat.le_trans o.1.size h1)
theorem qbk(b:Nat)(v:Value)(l:List UInt8)(s:ByteArray)(w:World)(h:Bld w b v l)(I:l.length+s.size<=100000000):
  Calls Tryz.prog 162 #[.pointer (some ⟨b,0,none⟩),.string s] w fun e i=>∃v',e=.returned (.tuple #[.int .i64 s.size,.nilIface])/\Bld i b v' (l++by8 s)/\za w b v i v':=by
 obtain⟨K,H,y,z,A⟩:=info_parts Tryz.info5;have C:Hid (Calls Tryz.prog 173 #[.pointer (some ⟨b,0,none⟩)] w fun e i=>e=.returned (.tuple #[])/\i.heap[b]?=some (.cells #[.pointer (some ⟨b,0,none⟩),v] 165 (0,0))/\Bld i b v l/\za w b v i v):=qal b v l w h;clear h;go_enter Tryz.func162,Tryz.ntmps162;go_wp2_with fail;refine C.out.mono ?_;rintro e w1 ⟨rfl,k,j,F⟩;obtain⟨v',w2,J,d,t,E⟩:=qfl (P:=Tryz.prog) w1 56 9 56 5 K Tryz.underlying56 Tryz.underlying9 H y z A v l.length (Lib.byteCells l) j.own s I;have D:=qhf (l':=l++by8 s) k j F (by rw[Lib.byteCells_append,List.length_append,qy];exact d) t E
 have u:b<w1.heap.size:=(Array.getElem?_eq_some_iff.1 k).1
 have r:w2.heap[b]?=some (.cells #[.pointer (some ⟨b,0,none⟩),v] 165 (0,0)):=by rw[t.block b u j.apart];exact k
 obtain⟨q,B,g,x⟩:∃a n c,v=.slice a n c:=by obtain⟨a,c,e,-⟩:=zh j.own;exact⟨a,_,c,e⟩
 obtain⟨o,p,f,m⟩:∃a n c,v'=.slice a n c:=by obtain⟨a,c,e,-⟩:=zh d;exact⟨a,_,c,e⟩
 subst x m
 have N:w1.cell? ⟨b,1,none⟩=some (.slice q B g):=by rw[qe k];rfl
 have L:w2.cell? ⟨b,1,none⟩=some (.slice q B g):=by rw[qe r];rfl
 have M:w2.frozen? ⟨b,1,none⟩=false:=qi r 1;have G:Hid (Bld (w2.setCell ⟨b,1,none⟩ (.slice o p f)) b (.slice o p f) (l++by8 s)/\za w b (.slice q B g) (w2.setCell ⟨b,1,none⟩ (.slice o p f)) (.slice o p f)):=D;clear D d t E k j F r C;go_wp2_with(at_builtin;refine Lib.wpList_append_run _ rfl _ _ _ _ rfl _ _ rfl rfl _ _ J ?_)
 go_ret2;exact⟨_,rfl,G.out⟩
theorem qgc(b:Nat)(v:Value)(l:List UInt8)(c:UInt8)(w:World)(h:Bld w b v l)(X:l.length+1<=100000000):
  Calls Tryz.prog 164 #[.pointer (some ⟨b,0,none⟩),.int .u8 c.toNat] w fun e k=>∃v',e=.returned .nilIface/\Bld k b v' (l++[c])/\za w b v k v':=by
 obtain⟨T,Q,F,G,H⟩:=info_parts Tryz.info5;have J:Hid (Calls Tryz.prog 173 #[.pointer (some ⟨b,0,none⟩)] w fun e k=>e=.returned (.tuple #[])/\k.heap[b]?=some (.cells #[.pointer (some ⟨b,0,none⟩),v] 165 (0,0))/\Bld k b v l/\za w b v k v):=qal b v l w h;clear h
 obtain⟨x,E⟩:∃x:Int,x=c.toNat:=⟨_,rfl⟩
 have O:Hid (x=c.toNat):=E;rw[<-E];clear E;go_enter Tryz.func164,Tryz.ntmps164;go_wp2_with fail;refine J.out.mono ?_;rintro e w1 ⟨rfl,s,m,C⟩
 obtain⟨v',w2,S,d,B,L⟩:=qai (P:=Tryz.prog) (w1.alloc (.cells #[.int .u8 x] 5)) 56 56 5 T _ 1 1 Tryz.underlying56 Q F G H rfl (by decide) v l.length (Lib.byteCells l) (World.ownsRow.alloc m.own _) ⟨w1.heap.size,0,none⟩ 1 1 [.int .u8 x] rfl
  (fun j u t=>by
   match j,t with
   | 0,t=>simp at t;subst t;simp[Addr.add])
  (fun u M=>by simp at M;subst M;rfl) (by unfold maxLen;omega) (by omega)
 have R:b<w1.heap.size:=(Array.getElem?_eq_some_iff.1 s).1;have i:(w1.alloc (.cells #[.int .u8 x] 5)).heap[b]?=some (.cells #[.pointer (some ⟨b,0,none⟩),v] 165 (0,0)):=qd9 s;have o:Bld (w1.alloc (.cells #[.int .u8 x] 5)) b v l:=m.below ((Below.refl _ _).alloc (Nat.le_refl _) _)
 have p:za w b v (w1.alloc (.cells #[.int .u8 x] 5)) v:=⟨C.1.alloc _,C.2⟩
 have K:=qhf (l':=l++[c]) i o p (by rw[Lib.byteCells_append,List.length_append];have e:Lib.byteCells [c]=[.int .u8 x]:=(by rw[O.out];rfl);rw[e];exact d) B L
 have A:w2.heap[b]?=some (.cells #[.pointer (some ⟨b,0,none⟩),v] 165 (0,0)):=by rw[B.block b (by simp;omega) m.apart];exact i
 obtain⟨z,I,g,D⟩:∃a n c,v=.slice a n c:=by obtain⟨a,c,e,-⟩:=zh m.own;exact⟨a,_,c,e⟩
 obtain⟨r,y,f,q⟩:∃a n c,v'=.slice a n c:=by obtain⟨a,c,e,-⟩:=zh d;exact⟨a,_,c,e⟩
 subst D q
 have Y:w1.cell? ⟨b,1,none⟩=some (.slice z I g):=by rw[qe s];rfl
 have U:w2.cell? ⟨b,1,none⟩=some (.slice z I g):=by rw[qe A];rfl
 have V:w2.frozen? ⟨b,1,none⟩=false:=qi A 1;have N:Hid (Bld (w2.setCell ⟨b,1,none⟩ (.slice r y f)) b (.slice r y f) (l++[c])/\za w b (.slice z I g) (w2.setCell ⟨b,1,none⟩ (.slice r y f)) (.slice r y f)):=K;clear K d B L s m C A J i o p;go_wp2_with(at_builtin;refine Lib.wpList_append_run _ rfl _ _ _ _ rfl _ _ rfl rfl _ _ S ?_)
 go_ret;exact⟨_,rfl,N.out⟩
theorem qdt(b:Nat)(v:Value)(l:List UInt8)(w:World)(h:Bld w b v l)(u:l≠[])(I:l.length<=100000000):
  Calls Tryz.prog 149 #[.pointer (some ⟨b,0,none⟩)] w fun e H=>e=.returned (.string ⟨l.toArray⟩)/\Kept (Foot b v) w H:=by
 have t:l.length≠0:=by simpa using u
 obtain⟨p,A,-⟩:=h.head;have d:=h.own
 obtain⟨g,a,c,rfl,-,y,F,m,q,f⟩:∃g a c,v=.slice (some ⟨g,0,none⟩) l.length a/\0<=g/\w.heap[g]?=some (.cells c 5 (0,0))/\l.length<=a/\a<=maxLen/\c.size=a * 1/\c.toList.take (l.length * 1)=Lib.byteCells l:=by
  rcases d.2 with ⟨_,hz⟩ | ⟨g,a,c,hv,r⟩
  ·exact absurd hz t
  ·exact⟨g,a,c,hv,r⟩
 have o:Tryz.prog.cellsOf 5=1:=by kernel_rfl
 have c1:w.drew.cell? ⟨b,1,none⟩=some (.slice (some ⟨g,0,none⟩) l.length a):=by
  have:w.drew.heap[b]?=some (.cells #[.pointer p,.slice (some ⟨g,0,none⟩) l.length a] 165 (0,0)):=A;rw[qe this];rfl
 have C:(Builtin.unsafeSliceData_ #[56] 175 #[.slice (some ⟨g,0,none⟩) l.length a]).run Tryz.prog w.drew=.ok (.pointer (some ⟨g,0,none⟩)) w.drew:=Lib.run_unsafeSliceData_row _ _ _ _ _ _ (by omega)
 have D:(Builtin.unsafeString_ #[175,3] 9 #[.pointer (some ⟨g,0,none⟩),.int .i64 l.length]).run Tryz.prog w.drew=.ok (.string ⟨l.toArray⟩) (w.drew.freeze ⟨g,0,none⟩ l.length):=by
  refine Lib.run_unsafeString_row w.drew 175 3 9 5 Tryz.underlying175 o g c.size (by have s:w.drew.heap[g]?=some (.cells c 5 (0,0)):=y;simp[World.shape?,s]) l u (by omega) (by omega) ?_
  intro j x G;exact d.cells (g:=g) rfl j (.int .u8 x.toNat) (by simp[Lib.byteCells,G])
 have B:Hid (Kept (Foot b (.slice (some ⟨g,0,none⟩) l.length a)) w (w.drew.freeze ⟨g,0,none⟩ l.length)):=by
  refine(Kept.refl _ w).drew.trans (T:=fun k=>k=g) ?_ (fun i _ e=>.inr (by subst e;rfl))
  unfold World.freeze
  split
  ·exact Kept.refl _ _
  ·exact⟨rfl,rfl,rfl,by simp,fun k _ E=>by
    simp only[Array.getElem?_modify]
    rw[if_neg (fun e=>E e.symm)]⟩
 have J:=qay
 generalize z:l.length=n at *
 clear d A y f q m h;go_enter Tryz.func149,Tryz.ntmps149;go_wp2;go_region
 all_goals (go_wp2;go_ret;exact⟨rfl,B.out⟩)
theorem qnx(w:World)(b j:Nat)(u:Value)(o:Obj)(d:b<w.heap.size):((w.setCell ⟨b,j,none⟩ u).alloc o).heap=((w.alloc o).setCell ⟨b,j,none⟩ u).heap:=by
 have e:(w.setCell ⟨b,j,none⟩ u).heap.size=w.heap.size:=by simp[World.setCell]
 apply Array.ext_getElem?
 intro i
 rcases Nat.lt_trichotomy i w.heap.size with h | h | h
 ·rw[Below.heap_alloc _ _ _ (by omega)]
  by_cases a:i=b
  ·subst a;simp only[World.setCell,Array.getElem?_modify,if_pos];rw[Below.heap_alloc _ _ _ d]
  ·rw[Below.heap_setCell _ _ _ _ a,Below.heap_setCell _ _ _ _ a,Below.heap_alloc _ _ _ h]
 ·rw[Below.heap_setCell _ _ _ _ (by simp only;omega)]
  subst h;have c:=heap_alloc_new (w.setCell ⟨b,j,none⟩ u) o;rw[e]at c;rw[c,heap_alloc_new w o]
 ·rw[Array.getElem?_eq_none (by simp;omega),Array.getElem?_eq_none (by simp[World.setCell];omega)]
theorem qjw(b n:Nat)(w:World)(a:w.heap[b]?=some (.cells #[.pointer (some ⟨b,0,none⟩),.slice none 0 0] 165 (0,0)))(L:n<=100000000):
  Calls Tryz.prog 183 #[.pointer (some ⟨b,0,none⟩),.int .i64 n] w fun e v=>∃v',e=.returned (.tuple #[])/\Bld v b v' []/\za w b (.slice none 0 0) v v':=by
 obtain⟨cs,d,I,c⟩:=Lib.run_makeNoZero (P:=Tryz.prog) w.drew #[3] 56 5 Tryz.underlying56 n (by omega)
 have u:IntKind.i64.wrap (IntKind.i64.wrap 0+(n:Int))=n:=by
  rw[IntKind.wrap_i64,IntKind.wrap_i64];omega
 have m:(callFunc 190 #[.int .i64 (IntKind.i64.wrap (IntKind.i64.wrap 0+(n:Int)))]).run Tryz.prog w.drew=.ok (.value (.slice (some ⟨w.drew.heap.size,0,none⟩) n cs.size)) (w.drew.drew.drew.alloc (.cells cs 5)):=by
  rw[u,run_callFunc_extern Tryz.func190 (by kernel_rfl) (by kernel_rfl) (by kernel_rfl) (e:=Extern.BytealgMakeNoZero.makeNoZero #[3] #[56]) (by kernel_rfl),d];rfl
 have s:b<w.heap.size:=(Array.getElem?_eq_some_iff.1 a).1
 have c1:w.drew.cell? ⟨b,1,none⟩=some (.slice none 0 0):=by
  have:w.drew.heap[b]?=_:=a;rw[qe this];rfl
 have f:(w.alloc (.cells cs 5)).heap[b]?=some (.cells #[.pointer (some ⟨b,0,none⟩),.slice none 0 0] 165 (0,0)):=qd9 a
 have c2:(w.alloc (.cells cs 5)).cell? ⟨b,1,none⟩=some (.slice none 0 0):=by rw[qe f];rfl
 have K:(w.alloc (.cells cs 5)).frozen? ⟨b,1,none⟩=false:=qi f 1
 have j:(Tryz.prog.info? 5).map (·.size)=some 1:=by kernel_rfl
 have o:∀W:World,(Builtin.copy_ #[56,56] 3 #[.slice (some ⟨w.heap.size,0,none⟩) 0 cs.size,.slice none 0 0]).run Tryz.prog W=.ok (goInt 0) W :=
  fun W=>run_copy_none W 56 56 3 5 _ _ 0 cs.size 0 0 Tryz.underlying56 j rfl
 have J:=c (by unfold maxLen;omega)
 have x:Hid (∀q:World,q.heap=((w.setCell ⟨b,1,none⟩ (.slice (some ⟨w.heap.size,0,none⟩) 0 cs.size)).alloc (.cells cs 5)).heap->q.os=w.os->q.tape=w.tape->q.output=w.output->Bld q b (.slice (some ⟨w.heap.size,0,none⟩) 0 cs.size) []/\za w b (.slice none 0 0) q (.slice (some ⟨w.heap.size,0,none⟩) 0 cs.size)):=by
  intro q g y z A;rw[qnx w b 1 _ _ s]at g
  have h:(w.alloc (.cells cs 5)).ownsRow 0 5 1 (.slice (some ⟨w.heap.size,0,none⟩) 0 cs.size) ([]:List UInt8).length (Lib.byteCells []) :=
   ⟨rfl,.inr ⟨w.heap.size,cs.size,cs,rfl,Nat.zero_le _,heap_alloc_new w _,Nat.zero_le _,J,by simp,rfl⟩⟩
  have l:Bld w b (.slice none 0 0) []:=⟨⟨_,a,.inr rfl⟩,World.ownsRow_nil _ _ _ _,by simp[Value.ownBlock]⟩
  have G:=qhf (w:=w) (w1:=w) (w2:=w.alloc (.cells cs 5)) (v':=.slice (some ⟨w.heap.size,0,none⟩) 0 cs.size) (l':=[]) a l (za.refl _ _ _) h ((Kept.refl _ _).alloc _)
   (fun k r=>by simp[Value.ownBlock]at r;exact .inr (by omega))
  obtain⟨⟨⟨p,B,C⟩,D,E⟩,⟨t,F⟩⟩:=G;exact⟨⟨⟨p,by rw[g];exact B,C⟩,qh D (fun i _=>by rw[g]),E⟩,⟨y,z,A,by rw[g];exact t.size,fun k r H=>by rw[g];exact t.block k r H⟩,F⟩
 have M:=qay;clear u a f c d j;go_enter Tryz.func183,Tryz.ntmps183;go_wp2;go_region
 all_goals (go_wp2;go_end0;exact⟨_,rfl,x.out _ rfl rfl rfl rfl⟩)
theorem qms(b n:Nat)(w:World)(h:Bld w b (.slice none 0 0) [])(q:n<=100000000):
  Calls Tryz.prog 174 #[.pointer (some ⟨b,0,none⟩),.int .i64 n] w fun e a=>∃v',e=.returned (.tuple #[])/\Bld a b v' []/\za w b (.slice none 0 0) a v':=by
 have f:Hid (Calls Tryz.prog 173 #[.pointer (some ⟨b,0,none⟩)] w fun e a=>e=.returned (.tuple #[])/\a.heap[b]?=some (.cells #[.pointer (some ⟨b,0,none⟩),.slice none 0 0] 165 (0,0))/\Bld a b (.slice none 0 0) []/\za w b (.slice none 0 0) a (.slice none 0 0)):=qal b _ [] w h;clear h;go_enter Tryz.func174,Tryz.ntmps174;go_wp2_with fail;refine f.out.mono ?_;rintro e w1 ⟨rfl,d,g,k⟩
 have c1:w1.cell? ⟨b,1,none⟩=some (.slice none 0 0):=by rw[qe d];rfl
 have o:Hid (∀m,Calls Tryz.prog 183 #[.pointer (some ⟨b,0,none⟩),.int .i64 n] (w1.drewN m) fun e a=>∃v',e=.returned (.tuple #[])/\Bld a b v' []/\za (w1.drewN m) b (.slice none 0 0) a v'):=fun m=>qjw b n (w1.drewN m) d q
 have c:Hid (za w b (.slice none 0 0) w1 (.slice none 0 0)/\Bld w1 b (.slice none 0 0) []):=⟨k,g⟩
 have s:=qay;clear d g k f
 by_cases r:0<n
 ·have p:(0:Int)<(n:Int):=by omega
  go_upto_region 3 with fail
  go_quiet (fail);go_wp2_with fail;refine(o.out _).mono ?_;rintro e w2 ⟨v',rfl,i,j⟩
  have l:Hid (Bld w2 b v' []/\za w b (.slice none 0 0) w2 v'):=⟨i,c.out.1.trans (za.trans ⟨(Kept.refl _ _).drewN _,fun _ h=>.inl h⟩ j)⟩
  clear i j;go_wp2_with fail;go_end0;exact⟨v',rfl,l.out⟩
 ·obtain rfl:n=0:=by omega
  go_upto_region 3 with fail
  go_quiet (fail);go_wp2_with fail;go_end0;exact⟨_,rfl,c.out.2.below (yh (Below.refl _ _) _),c.out.1.1.drewN _,c.out.1.2⟩
def sp (l:List (List UInt8)):List UInt8:=l.flatMap fun x=>32 :: x
def jn:List (List UInt8)->List UInt8
 | []=>[]
 | x :: r=>x++sp r
theorem qny(a b:List (List UInt8)):sp (a++b)=sp a++sp b:=by unfold sp;rw[List.flatMap_append]
theorem qr2(x:List UInt8):sp [x]=32 :: x:=by unfold sp;simp
theorem qjx{l:List (List UInt8)}{k:Nat}{x:List UInt8}(h:l[k]?=some x):sp (l.take (k+1))=sp (l.take k)++32 :: x:=by
 rw[zn h,qny,qr2]
theorem qcf(l:List (List UInt8))(h:∀x∈l,x.length<=100):(sp l).length<=101 * l.length:=by
 induction l with
 | nil=>simp[sp]
 | cons x r ih =>
  have b:=ih (fun y a=>h y (List.mem_cons_of_mem _ a));have c:=h x List.mem_cons_self;have e:sp (x :: r)=(32 :: x)++sp r:=rfl;rw[e,List.length_append,List.length_cons,List.length_cons];omega
def NewB (w wr:World) (b:Nat) (l:List UInt8):Prop:=∃v,Bld wr b v l/\Below w.heap.size w wr/\∀k,Foot b v k->w.heap.size<=k
theorem NewB.step{w wr a:World}{b:Nat}{l':List UInt8}{v v':Value}(c:Below w.heap.size w wr)(d:∀k,Foot b v k->w.heap.size<=k)(g:Bld a b v' l')(f:za wr b v a v'):NewB w a b l':=by
 refine⟨v',g,c.trans (f.below c.size d),?_⟩;rintro k (rfl | h)
 ·exact d k (.inl rfl)
 ·rcases f.2 k h with h1 | h1
  ·exact d k (.inr h1)
  ·exact Nat.le_trans c.size h1
theorem qam(b:Nat)(l:List UInt8)(s:ByteArray)(w W:World)(h:NewB w W b l)(j:l.length+s.size<=100000000):
  Calls Tryz.prog 162 #[.pointer (some ⟨b,0,none⟩),.string s] W fun e a=>e=.returned (.tuple #[.int .i64 s.size,.nilIface])/\NewB w a b (l++by8 s):=by
 obtain⟨v,c,d,f⟩:=h;refine(qbk b v l s W c j).mono ?_;rintro e a ⟨v',rfl,g,i⟩;exact⟨rfl,NewB.step d f g i⟩
def qnz (w wr:World) (b:Nat):Prop:=Bld wr b (.slice none 0 0) []/\Below w.heap.size w wr/\∀k,Foot b (.slice none 0 0) k->w.heap.size<=k
theorem qea(w wr:World)(h:Below w.heap.size w wr):qnz w (wr.alloc (.cells #[.pointer none,.slice none 0 0] 165)) wr.heap.size :=
 ⟨⟨⟨none,heap_alloc_new _ _,.inl rfl⟩,World.ownsRow_nil _ _ _ _,by simp[Value.ownBlock]⟩,qd h (qb _ _),fun k a=>by
  rcases a with rfl | a
  ·exact h.size
  ·simp[Value.ownBlock]at a⟩
theorem qmt(l:List ByteArray)(ao:Option Addr)(n A:Nat)(w:World)(hr:Row w 1 ao n A (strC l))(hn:n=l.length)(h1:1<=n)(a6:n<=1000)(hs:∀x∈l,x.size<=100):
  Calls Tryz.prog 163 #[.slice ao n A,.string ⟨#[32]⟩] w fun e c=>∃t,e=.returned (.string t)/\by8 t=jn (l.map by8)/\Below w.heap.size w c:=by
 have Y:Hid (n=l.length):=hn;have HR:Hid (Row w 1 ao n A (strC l)):=hr;have M:Hid (∀x∈l,x.size<=100):=hs;have a4:=hr.le
 have a5:A<=9223372036854775807:=by have:=hr.max;unfold maxLen at this;omega
 clear hr hn hs
 by_cases B:n=1
 ·subst B
  obtain⟨x,rfl⟩:∃x,l=[x]:=by
   match l,Y.out with
   | [x],_=>exact⟨x,rfl⟩
  obtain⟨b,o,rfl,c0⟩:=jm HR.out (i:=0) (s:=x) rfl;rw[Nat.add_zero]at c0;go_enter Tryz.func163,Tryz.ntmps163;go_wp2;go_ret;exact⟨x,rfl,by simp[jn,sp],Below.refl _ _⟩
 ·have h2:2<=n:=by omega
  obtain⟨x,r,E⟩:∃x r,Hid (l=x :: r):=by
   match l,Y.out with
   | x :: r,_=>exact⟨x,r,rfl⟩
   | [],h=>exact absurd h (by simp;omega)
  obtain⟨b,o,rfl,d⟩:=HR.out.at (by omega)
  have HC:Hid (∀(W:World),Below w.heap.size w W->∀(i:Nat) (s:ByteArray),l[i]?=some s->W.cell? ⟨b,o+i,none⟩=some (.string s)):=fun W hW i s hi=>qj hW (d i _ (by unfold strC;rw[List.getElem?_map,hi];rfl))
  have e0:((n:Int) == 0)=false:=by simp;omega
  have e1:((n:Int) == 1)=false:=by simp;omega
  have e2:¬(9223372036854775807 / ((n:Int) - 1)<=1):=by
   have h3:2<=9223372036854775807 / ((n:Int) - 1):=(Int.le_ediv_iff_mul_le (by omega)).2 (by omega);omega
  clear d HR B;go_enter Tryz.func163,Tryz.ntmps163
  go_upto_block 1 with fail
  go_cut [5] (fun s5 wd=>∃T:Nat,s5=.int .i64 T/\T<=200000/\wd=w)
  case first =>
   go_wp2_with fail
   go_loop [5,41] (fun s5 s41=>∃T k:Nat,s5=.int .i64 T/\s41=.int .i64 k/\k<=n/\T<=1000+100 * k) (fun _ s41=>n - (intOf s41).toNat)
   case atStart=>exact⟨n - 1,0,by congr 1;omega,rfl,Nat.zero_le _,by omega⟩
   case round =>
    obtain⟨T,k,rfl,rfl,Z,hT⟩:=hrel
    by_cases F:k<n
    ·obtain⟨y,G⟩:∃y,l[k]?=some y:=⟨l[k]'(by rw[<-Y.out];exact F),List.getElem?_eq_getElem _⟩
     have c0:=HC.out w (Below.refl _ _) k y G;have a3:=M.out y (List.mem_of_getElem? G);clear G;go_wp2_with fail
     go_round
     case rel=>exact⟨T+y.size,k+1,by simp,by simp,by omega,by omega⟩
     case measure=>simp[intOf];omega
    ·go_wp2_with fail;go_meet;exact⟨T,rfl,by omega,rfl⟩
  case rest =>
   obtain⟨T,rfl,hT,a8⟩:=hcut;subst wc;have f:Hid (qnz w (w.alloc (.cells #[.pointer none,.slice none 0 0] 165)) w.heap.size):=qea w w (Below.refl _ _)
   go_upto_region 19 with fail
   generalize w.alloc (.cells #[.pointer none,.slice none 0 0] 165)=w1 at f ⊢
   obtain⟨a,X⟩:∃a,a=w.heap.size:=⟨_,rfl⟩
   rw[<-X]at f ⊢;clear X;have HG:Hid (Calls Tryz.prog 174 #[.pointer (some ⟨a,0,none⟩),.int .i64 T] w1 fun e c=>∃v',e=.returned (.tuple #[])/\Bld c a v' []/\za w1 a (.slice none 0 0) c v'):=qms a T w1 f.out.1 (by omega);go_wp2_with fail;refine HG.out.mono ?_;rintro e w2 ⟨v2,rfl,P,U⟩;have C:Hid (NewB w w2 a []):=NewB.step f.out.2.1 f.out.2.2 P U
   have O:Hid (Below w.heap.size w w2):=by obtain⟨v,-,h,-⟩:=C.out;exact h
   have c0:=HC.out w2 O.out 0 x (by rw[E.out];rfl)
   rw[Nat.add_zero]at c0;have a7:=M.out x (by rw[E.out];exact List.mem_cons_self)
   have g:Hid (Calls Tryz.prog 162 #[.pointer (some ⟨a,0,none⟩),.string x] w2 fun e c=>e=.returned (.tuple #[.int .i64 x.size,.nilIface])/\NewB w c a ([]++by8 x)):=qam a [] x w w2 C.out (by simp;omega)
   clear HG P U f;go_wp2_with fail;refine g.out.mono ?_;rintro e w3 ⟨rfl,Q⟩
   have D:Hid (NewB w w3 a (by8 x++sp ((r.map by8).take 0))):=by
    show NewB _ _ _ _
    simpa [sp] using Q
   clear g Q C O c0
   have u:Hid (r.length=n - 1):=by have:=Y.out;rw[E.out,List.length_cons]at this;show _=_;omega
   go_upto_block 3 with fail
   go_cut [65] (fun s65 wd=>Hid (NewB w wd a (by8 x++sp (r.map by8))))
   case first =>
    go_wp2_with fail
    go_loopg [65] n (fun kx s65 wr=>∃k:Nat,s65=.int .i64 k/\k<=n - 1/\n - 1 - k<=kx/\Hid (NewB w wr a (by8 x++sp ((r.map by8).take k))))
    case atStart=>exact⟨0,rfl,Nat.zero_le _,by omega,D⟩
    case round =>
     obtain⟨k,rfl,Z,hg,J⟩:=hrel;clear D
     by_cases F:k<n - 1
     ·obtain⟨y,G⟩:∃y,r[k]?=some y:=⟨r[k]'(by rw[u.out];exact F),List.getElem?_eq_getElem _⟩
      have H:l[k+1]?=some y:=by rw[E.out];exact G
      have a2:Hid (Below w.heap.size w wr):=by obtain⟨v,-,h,-⟩:=J.out;exact h
      have a3:=M.out y (List.mem_of_getElem? H)
      have p:Hid ((by8 x++sp ((r.map by8).take k)).length<=200000):=by
       show _<=_
       have h1:=qcf ((r.map by8).take k) (fun z hz=>by
        have:=List.mem_of_mem_take hz;rw[List.mem_map]at this;obtain⟨q,I,rfl⟩:=this;rw[qy]
        exact M.out q (by rw[E.out];exact List.mem_cons_of_mem _ I))
       rw[List.length_append,qy]
       have h2:((r.map by8).take k).length<=k:=by rw[List.length_take];omega
       have h3:101 * ((r.map by8).take k).length<=101 * k:=Nat.mul_le_mul_left _ h2;omega
      have c0:=HC.out wr a2.out (k+1) y H
      have c1:wr.cell? ⟨b,o+1+k,none⟩=some (.string y):=by rw[show o+1+k=o+(k+1) by omega];exact c0
      have g:Hid (Calls Tryz.prog 162 #[.pointer (some ⟨a,0,none⟩),.string ⟨#[32]⟩] wr fun e c=>e=.returned (.tuple #[.int .i64 1,.nilIface])/\NewB w c a ((by8 x++sp ((r.map by8).take k))++[32])):=qam a _ ⟨#[32]⟩ w wr J.out (by have:=p.out;have e:(⟨#[32]⟩:ByteArray).size=1:=rfl;omega)
      have HE:Hid ((by8 x++sp ((r.map by8).take k))++[32]++by8 y=by8 x++sp ((r.map by8).take (k+1))):=by
       show _=_;rw[qjx (x:=by8 y) (by rw[List.getElem?_map,G];rfl)]
       simp
      have L:Hid (∀W,NewB w W a ((by8 x++sp ((r.map by8).take k))++[32])->Calls Tryz.prog 162 #[.pointer (some ⟨a,0,none⟩),.string y] W fun e c=>e=.returned (.tuple #[.int .i64 y.size,.nilIface])/\NewB w c a (by8 x++sp ((r.map by8).take (k+1)))):=fun W hW=>by
       have:=qam a _ y w W hW (by have:=p.out;rw[List.length_append];simp only[List.length_cons,List.length_nil];omega)
       rwa [HE.out]at this
      clear G H c0 p HE J;go_wp2_with fail;refine g.out.mono ?_;rintro e w4 ⟨rfl,R⟩;have K:Hid (NewB w w4 a ((by8 x++sp ((r.map by8).take k))++[32])):=R;clear R;go_wp2_with fail;refine(L.out _ K.out).mono ?_;rintro e w5 ⟨rfl,S⟩;have a0:Hid (NewB w w5 a (by8 x++sp ((r.map by8).take (k+1)))):=S;clear S K g L;go_wp2_with fail;go_roundg (n - 1 - (k+1))
      case measure=>omega
      case rel=>exact⟨k+1,by simp,by omega,Nat.le_refl _,a0⟩
     ·have HF:Hid (NewB w wr a (by8 x++sp (r.map by8))):=by
       have:=J.out
       rwa [List.take_of_length_le (by rw[List.length_map,u.out];omega)]at this
      go_wp2_with fail;go_meet;exact HF
   case rest =>
    clear D;obtain⟨v,hB,j,m⟩:=hcut.out
    have V:by8 x++sp (r.map by8)≠[]:=by
     match r,u.out with
     | [],h=>exact absurd h (by simp;omega)
     | y :: r',_=>intro h;have:=congrArg List.length h;rw[List.length_append]at this;simp[sp]at this
    have N:Hid (Calls Tryz.prog 149 #[.pointer (some ⟨a,0,none⟩)] wc fun e c=>e=.returned (.string ⟨(by8 x++sp (r.map by8)).toArray⟩)/\Kept (Foot a v) wc c):=qdt a v _ wc hB V (by
     have h1:=qcf (r.map by8) (fun z hz=>by
      rw[List.mem_map]at hz;obtain⟨q,I,rfl⟩:=hz;rw[qy]
      exact M.out q (by rw[E.out];exact List.mem_cons_of_mem _ I))
     rw[List.length_append,qy];rw[List.length_map,u.out]at h1
     omega)
    have HK:Hid (∀c,Kept (Foot a v) wc c->Below w.heap.size w c):=fun c Z=>j.trans (Z.below j.size (fun k Z hf=>by have:=m k hf;omega))
    clear hB j m V;go_wp2_with fail;refine N.out.mono ?_;rintro e w6 ⟨rfl,hK⟩;have a1:Hid (Below w.heap.size w w6):=HK.out _ hK;clear hK N;generalize I:(by8 x++sp (r.map by8)).toArray=q;have HQ:Hid ((by8 x++sp (r.map by8)).toArray=q):=I;clear I;go_wp2_with fail;go_ret;exact⟨_,rfl,by rw[<-HQ.out,E.out];rfl,a1.out⟩
def qbn (l:List (List UInt8)):List UInt8:=jn l++[10]
theorem qiv(l:List ByteArray)(m:Option Addr)(n d b:Nat)(v:Value)(c:List UInt8)(w:World)(E:Row w 1 m n d (strC l))(k:n=l.length)(K:1<=n)(u:n<=1000)(f:∀x∈l,x.size<=100)(D:Bld w b v c)(M:c.length<=50000000):
  Calls Tryz.prog 146 #[.pointer (some ⟨b,0,none⟩),.slice m n d] w fun e a=>∃v',e=.returned (.tuple #[])/\Bld a b v' (c++qbn (l.map by8))/\za w b v a v':=by
 have B:Hid (Calls Tryz.prog 163 #[.slice m n d,.string ⟨#[32]⟩] w fun e a=>∃t,e=.returned (.string t)/\by8 t=jn (l.map by8)/\Below w.heap.size w a):=qmt l m n d w E k K u f;have H:Hid (Bld w b v c):=D
 have o:Hid ((jn (l.map by8)).length<=200000):=by
  show _<=_
  match l,k,f with
  | [],_,_=>simp[jn]
  | x :: r,k,f =>
   have L:=qcf (r.map by8) (fun z F=>by
    rw[List.mem_map]at F;obtain⟨q,N,rfl⟩:=F;rw[qy]
    exact f q (List.mem_cons_of_mem _ N))
   have P:=f x List.mem_cons_self;rw[List.map_cons];unfold jn;rw[List.length_append,qy];rw[List.length_map]at L;rw[List.length_cons]at k;omega
 clear E k f D;go_enter Tryz.func146,Tryz.ntmps146;go_wp2_with fail;refine B.out.mono ?_;rintro e w1 ⟨t,rfl,y,s⟩
 have O:t.size<=200000:=by rw[<-qy,y];exact o.out
 have H1:Hid (Calls Tryz.prog 162 #[.pointer (some ⟨b,0,none⟩),.string t] w1 fun e a=>∃v',e=.returned (.tuple #[.int .i64 t.size,.nilIface])/\Bld a b v' (c++by8 t)/\za w1 b v a v'):=qbk b v c t w1 (H.out.below s) (by omega);have J:Hid (by8 t=jn (l.map by8)):=y;have C:Hid (za w b v w1 v):=za.of_below s;clear y s B;go_wp2_with fail;refine H1.out.mono ?_;rintro e w2 ⟨v2,rfl,g,i⟩;have A:Hid (Calls Tryz.prog 164 #[.pointer (some ⟨b,0,none⟩),.int .u8 10] w2 fun e a=>∃v',e=.returned .nilIface/\Bld a b v' (c++by8 t++[10])/\za w2 b v2 a v'):=qgc b v2 (c++by8 t) 10 w2 g (by rw[List.length_append,qy];omega)
 have p:Hid (za w b v w2 v2):=C.out.trans i;clear g i H1 C;go_wp2_with fail;refine A.out.mono ?_;rintro e G ⟨v3,rfl,h,j⟩
 have I:Hid (Bld G b v3 (c++qbn (l.map by8))/\za w b v G v3):=⟨by unfold qbn;rw[<-J.out,<-List.append_assoc];exact h,p.out.trans j⟩
 clear h j A;go_wp2_with fail;go_end0;exact⟨v3,rfl,I.out⟩
def Pow (w:World):Prop:=∀i:Nat,i<20->w.cell? ⟨3,i,none⟩=some (.int .u64 ((10 ^ i:Nat):Int))
theorem Pow.below{w a:World}(h:Pow w)(b:Below w.heap.size w a):Pow a:=fun i c=>qj b (h i c)
theorem qe0(b:Bool)(w:World):Calls Tryz.prog 193 #[.bool b] w fun e a=>e=.returned (.int .i64 (if b then 1 else 0))/\a=w:=by
 cases b
 ·go_enter Tryz.func193,Tryz.ntmps193;go_wp2;go_ret;exact⟨rfl,rfl⟩
 ·go_enter Tryz.func193,Tryz.ntmps193;go_wp2;go_ret;exact⟨rfl,rfl⟩
theorem qk3(x:Nat)(w:World)(b:x<=64):Calls Tryz.prog 191 #[.int .i64 x] w fun e a=>e=.returned (.int .i64 ((x * 78913) / 262144:Nat))/\a=w:=by
 go_enter Tryz.func191,Tryz.ntmps191;go_wp2;go_ret;exact⟨rfl,rfl⟩
theorem qk4(k:IntKind)(s:ByteArray)(i:Nat)(h:i<s.size)(W:World):(Instr.index 9 (.string s) (.int k (i:Int))).run Tryz.prog W=.ok (.int .u8 (bt (by8 s) i)) W:=by
 rw[run_index_string W 9 s k (i:Int) Tryz.underlying9,dif_pos ⟨by omega,by omega⟩];rw[<-qqw s i h];rfl
def bitsOf (n:Nat):Nat:=if n=0 then 0 else if n<2 then 1 else if n<4 then 2 else if n<8 then 3 else if n<16 then 4 else if n<32 then 5 else if n<64 then 6 else if n<128 then 7 else 8
def len16 (n:Nat):Nat:=if 256<=n then 8+bitsOf (n / 256) else bitsOf n
theorem qcg(n:Nat):bitsOf n<=8:=by unfold bitsOf;(repeat' split);all_goals omega
theorem qk5(n:Nat)(w:World)(q:n<=9999):Calls Tryz.prog 192 #[.int .u64 n] w fun e p=>e=.returned (.int .i64 (len16 n:Nat))/\p=w:=by
 go_enter Tryz.func192,Tryz.ntmps192
 go_name_bytes L8 hL8
 have a:∀i:Nat,i<256->∀W:World,(Instr.index 9 (.string L8) (.int .u8 (i:Int))).run Tryz.prog W=.ok (.int .u8 (bitsOf i:Nat)) W:=fun i h W=>by
  have k:L8.size=256:=by rw[<-hL8];kernel_rfl
  rw[qk4 .u8 _ i (by omega) W]
  have all:((List.range 256).all fun i=>bt (by8 L8) i == ((bitsOf i:Nat):Int))=true:=by rw[<-hL8];kernel_rfl
  have:=List.all_eq_true.1 all i (List.mem_range.2 h);rw[beq_iff_eq]at this;rw[this]
 have j:Hid (∀i:Nat,i<256->∀W:World,(Instr.index 9 (.string L8) (.int .u8 (i:Int))).run Tryz.prog W=.ok (.int .u8 (bitsOf i:Nat)) W):=a;clear a hL8
 obtain⟨x,g⟩:∃x:Int,x=n:=⟨_,rfl⟩
 have c:Hid (x=n):=g
 have l:0<=x:=by omega
 have o:x<=9999:=by omega
 rw[<-g];clear g
 by_cases h:256<=x
 ·have f:∀W:World,(Instr.index 9 (.string L8) (.int .u8 (x / 256))).run Tryz.prog W=.ok (.int .u8 (bitsOf (n / 256):Nat)) W:=fun W=>by
   have:=j.out (n / 256) (by omega) W
   rwa [show((n / 256:Nat):Int)=x / 256 by have:=c.out;omega]at this
  have d:=qcg (n / 256)
  have b:Hid (len16 n=8+bitsOf (n / 256)):=by show _=_;unfold len16;rw[if_pos (by have:=c.out;omega)]
  generalize bitsOf (n / 256)=m at f d b;go_wp2;go_ret;exact⟨by rw[b.out];simp,rfl⟩
 ·have f:∀W:World,(Instr.index 9 (.string L8) (.int .u8 x)).run Tryz.prog W=.ok (.int .u8 (bitsOf n:Nat)) W:=fun W=>by
   have:=j.out n (by have:=c.out;omega) W
   rwa [<-c.out]at this
  have d:=qcg n
  have b:Hid (len16 n=bitsOf n):=by show _=_;unfold len16;rw[if_neg (by have:=c.out;omega)]
  generalize bitsOf n=m at f d b;go_wp2;go_ret;exact⟨by rw[b.out];simp,rfl⟩
theorem qr3:((List.range 10000).all fun n=>decide (n<100) || (decide (len16 n * 78913 / 262144<20) && (len16 n * 78913 / 262144+(if 10 ^ (len16 n * 78913 / 262144)<=n then 1 else 0) == (if n<1000 then 3 else 4))))=true:=by kernel_rfl
theorem qgd(n:Nat)(w:World)(s:100<=n)(p:n<=9999)(o:Pow w):Calls Tryz.prog 185 #[.int .u64 n] w fun e f=>e=.returned (.int .i64 (if n<1000 then 3 else 4:Nat))/\f=w:=by
 have H1:Hid (∀W:World,Calls Tryz.prog 192 #[.int .u64 n] W fun e f=>e=.returned (.int .i64 (len16 n:Nat))/\f=W):=fun W=>qk5 n W p
 have l:len16 n<=64:=by
  unfold len16;have:=qcg (n / 256);have:=qcg n
  split <;> omega
 have g:Hid (∀W:World,Calls Tryz.prog 191 #[.int .i64 (len16 n:Nat)] W fun e f=>e=.returned (.int .i64 ((len16 n * 78913) / 262144:Nat))/\f=W):=fun W=>qk3 (len16 n) W l
 have a:=List.all_eq_true.1 qr3 n (List.mem_range.2 (by omega));rw[decide_eq_false (by omega),Bool.false_or,Bool.and_eq_true,decide_eq_true_eq,beq_iff_eq]at a;have k:=o _ a.1;have b:Hid (len16 n * 78913 / 262144+(if 10 ^ (len16 n * 78913 / 262144)<=n then 1 else 0)=(if n<1000 then 3 else 4)):=a.2;have r:=a.1
 obtain⟨T,d⟩:∃T,10 ^ (len16 n * 78913 / 262144)=T:=⟨_,rfl⟩
 have j:Hid (10 ^ (len16 n * 78913 / 262144)=T):=d;clear d;rw[j.out]at k b;generalize len16 n * 78913 / 262144=q at g k b r;generalize (if n<1000 then 3 else 4:Nat)=R at b ⊢;generalize len16 n=m at H1 g;clear a j o l
 by_cases h:T<=n
 ·have c:Hid (q+1=R):=by have:=b.out;rwa [if_pos h]at this
  have i:(T:Int)<=(n:Int):=by omega
  clear b h;go_enter Tryz.func185,Tryz.ntmps185;go_wp2_with(first | (go_at_call 192;refine(H1.out _).mono ?_;rintro e w1 ⟨rfl,rfl⟩) | (go_at_call 191;refine(g.out _).mono ?_;rintro e w1 ⟨rfl,rfl⟩) | (go_at_call 193;refine(qe0 _ _).mono ?_;rintro e w1 ⟨rfl,rfl⟩))
  go_ret;exact⟨by rw[<-c.out];simp,rfl⟩
 ·have c:Hid (q=R):=by have:=b.out;rwa [if_neg h]at this
  have i:¬(T:Int)<=(n:Int):=by omega
  clear b h;go_enter Tryz.func185,Tryz.ntmps185;go_wp2_with(first | (go_at_call 192;refine(H1.out _).mono ?_;rintro e w1 ⟨rfl,rfl⟩) | (go_at_call 191;refine(g.out _).mono ?_;rintro e w1 ⟨rfl,rfl⟩) | (go_at_call 193;refine(qe0 _ _).mono ?_;rintro e w1 ⟨rfl,rfl⟩))
  go_ret;exact⟨by rw[<-c.out];simp,rfl⟩
theorem qmu:((List.range 10).all fun n=>part (by8 Lib.digits36) n (n+1) == dg 6 n [])=true:=by kernel_rfl
theorem qmv:((List.range 100).all fun n=>decide (n<10) || (part (by8 Lib.smalls) (n * 2) (n * 2+2) == dg 6 n []))=true:=by kernel_rfl
theorem qk6(n:Nat)(w:World)(f:n<100):Calls Tryz.prog 184 #[.int .i64 n] w fun e g=>∃t,e=.returned (.string t)/\by8 t=dg 6 n []/\g=w:=by
 go_enter Tryz.func184,Tryz.ntmps184
 go_name_bytes_deep 45 SM hSM
 have d:SM=Lib.smalls:=by rw[<-hSM];decide +kernel
 subst d;clear hSM
 go_name_bytes_deep 30 DG hDG
 have c:DG=Lib.digits36:=by rw[<-hDG];decide +kernel
 subst c;clear hDG
 by_cases h:n<10
 ·have a:∀w,(Instr.slice 9 (.string Lib.digits36) (some (.int .i64 (n:Int))) (some (.int .i64 ((n:Int)+1))) none).run Tryz.prog w=.ok (.string (Lib.digits36.extract n (n+1))) w:=fun w=>by
   rw[run_slice_string w 9 Lib.digits36 .i64 .i64 _ _ Tryz.underlying9 (by omega) (by omega) (by rw[Lib.digits36_size];omega),show((n:Int)).toNat=n by omega,show((n:Int)+1).toNat=n+1 by omega]
  have b:Hid (by8 (Lib.digits36.extract n (n+1))=dg 6 n []):=by
   show _=_;rw[z9];have:=List.all_eq_true.1 qmu n (List.mem_range.2 h)
   rwa [beq_iff_eq]at this
  generalize Lib.digits36.extract n (n+1)=t at a b;go_wp2;go_ret;exact⟨t,rfl,b.out,rfl⟩
 ·have a:∀w,(Instr.slice 9 (.string Lib.smalls) (some (.int .i64 ((n:Int) * 2))) (some (.int .i64 ((n:Int) * 2+2))) none).run Tryz.prog w=.ok (.string (Lib.smalls.extract (n * 2) (n * 2+2))) w:=fun w=>by
   rw[run_slice_string w 9 Lib.smalls .i64 .i64 _ _ Tryz.underlying9 (by omega) (by omega) (by rw[Lib.smalls_size];omega),show((n:Int) * 2).toNat=n * 2 by omega,show((n:Int) * 2+2).toNat=n * 2+2 by omega]
  have b:Hid (by8 (Lib.smalls.extract (n * 2) (n * 2+2))=dg 6 n []):=by
   show _=_;rw[z9];have:=List.all_eq_true.1 qmv n (List.mem_range.2 f);rw[decide_eq_false h,Bool.false_or]at this
   rwa [beq_iff_eq]at this
  generalize Lib.smalls.extract (n * 2) (n * 2+2)=t at a b;go_wp2;go_ret;exact⟨t,rfl,b.out,rfl⟩
def Digs (w:World) (ab:Nat) (l:List Int):Prop:=∀j (hj:j<l.length),w.cell? ⟨ab,1+j,none⟩=some (.int .u8 l[j])
theorem qhg(k:Nat)(a:k<100):((Lib.sm (k * 2)).toNat:Int)=48+k / 10/\((Lib.sm (k * 2+1)).toNat:Int)=48+k % 10:=by
 have all:((List.range 100).all fun k=>(((Lib.sm (k * 2)).toNat:Int) == 48+(k:Int) / 10) && (((Lib.sm (k * 2+1)).toNat:Int) == 48+(k:Int) % 10))=true:=by kernel_rfl
 have:=List.all_eq_true.1 all k (List.mem_range.2 a)
 simpa using this
theorem qmw(x:Int)(a:Nat)(w:World)(P:1000<=x)(Q:x<=9999)(m:∀j,j<24->∃g:Int,w.cell? ⟨a,j,none⟩=some (.int .u8 g))(R:∀j,w.frozen? ⟨a,j,none⟩=false):
  Calls Tryz.prog 186 #[.slice (some ⟨a,1,none⟩) 4 23,.int .u64 x] w fun e F=>e=.returned (.tuple #[])/\Digs F a [48+x / 1000,48+x / 100 % 10,48+x / 10 % 10,48+x % 10]/\Below a w F:=by
 obtain⟨L,c1⟩:=m 1 (by omega);obtain⟨M,c2⟩:=m 2 (by omega);obtain⟨N,G⟩:=m 3 (by omega);obtain⟨O,H⟩:=m 4 (by omega);clear m;have S:=qay;go_enter Tryz.func186,Tryz.ntmps186
 go_name_bytes SM hSM
 have q:SM=Lib.smalls:=by rw[<-hSM];decide +kernel
 subst q;clear hSM;go_wp2
 go_loop [1,4] (fun u v=>u=.int .u64 x/\v=.int .i64 4) (fun _ _=>0)
 case atStart=>exact⟨rfl,rfl⟩
 case round =>
  obtain⟨rfl,rfl⟩:=hrel
  go_upto_region 17 with fail
  go_name_slot 15 x0 hx0
  go_name_slot 14 x1 hx1
  have z:∃k:Nat,k<100/\x0=((k * 2:Nat):Int)/\(k:Int)=x % 100:=⟨(x % 100).toNat,by omega,by omega,by omega⟩
  have A:∃k:Nat,k<100/\x1=((k * 2:Nat):Int)/\(k:Int)=x / 100:=⟨(x / 100).toNat,by omega,by omega,by omega⟩
  obtain⟨c,n,r,t⟩:=z;obtain⟨d,o,s,y⟩:=A;have f:∀w,(Instr.index 9 (.string Lib.smalls) (.int .u32 (x0+1))).run Tryz.prog w=.ok (.int .u8 ((Lib.sm (c * 2+1)).toNat:Int)) w:=Lib.idx_smalls 9 Tryz.underlying9 .u32 _ _ (by omega) (by omega);have h:∀w,(Instr.index 9 (.string Lib.smalls) (.int .u32 x0)).run Tryz.prog w=.ok (.int .u8 ((Lib.sm (c * 2)).toNat:Int)) w:=Lib.idx_smalls 9 Tryz.underlying9 .u32 _ _ (by omega) (by omega);have i:∀w,(Instr.index 9 (.string Lib.smalls) (.int .u32 (x1+1))).run Tryz.prog w=.ok (.int .u8 ((Lib.sm (d * 2+1)).toNat:Int)) w:=Lib.idx_smalls 9 Tryz.underlying9 .u32 _ _ (by omega) (by omega);have l:∀w,(Instr.index 9 (.string Lib.smalls) (.int .u32 x1)).run Tryz.prog w=.ok (.int .u8 ((Lib.sm (d * 2)).toNat:Int)) w:=Lib.idx_smalls 9 Tryz.underlying9 .u32 _ _ (by omega) (by omega)
  have I:0<=x0/\x0<=198:=by omega
  have J:0<=x1/\x1<=198:=by omega
  obtain⟨B,C⟩:=qhg c n;obtain⟨D,E⟩:=qhg d o
  have b:Hid (((Lib.sm (d * 2)).toNat:Int)=48+x / 1000/\((Lib.sm (d * 2+1)).toNat:Int)=48+x / 100 % 10/\((Lib.sm (c * 2)).toNat:Int)=48+x / 10 % 10/\((Lib.sm (c * 2+1)).toNat:Int)=48+x % 10):=by
   refine⟨?_,?_,?_,?_⟩
   ·rw[D];omega
   ·rw[E];omega
   ·rw[B];omega
   ·rw[C];omega
  generalize ((Lib.sm (c * 2)).toNat:Int)=T at h b;generalize ((Lib.sm (c * 2+1)).toNat:Int)=U at f b;generalize ((Lib.sm (d * 2)).toNat:Int)=V at l b;generalize ((Lib.sm (d * 2+1)).toNat:Int)=X at i b;clear B C D E hx0 hx1 r s t y n o;go_region;go_wp2;go_region;go_wp2;go_end0;refine⟨rfl,?_,(((((Below.refl a w).setCell (p:=⟨a,4,none⟩) (Nat.le_refl _) _).setCell (p:=⟨a,3,none⟩) (Nat.le_refl _) _).setCell (p:=⟨a,2,none⟩) (Nat.le_refl _) _).setCell (p:=⟨a,1,none⟩) (Nat.le_refl _) _).drew.drew⟩;rw[<-b.out.1,<-b.out.2.1,<-b.out.2.2.1,<-b.out.2.2.2];intro j K
  match j,K with
  | 0,_=>simp[go_sem,c1]
  | 1,_=>simp[go_sem,c2]
  | 2,_=>simp[go_sem,G]
  | 3,_=>simp[go_sem,H]
theorem qmx(x:Int)(a:Nat)(w:World)(D:100<=x)(E:x<=999)(i:∀j,j<24->∃g:Int,w.cell? ⟨a,j,none⟩=some (.int .u8 g))(F:∀j,w.frozen? ⟨a,j,none⟩=false):
  Calls Tryz.prog 186 #[.slice (some ⟨a,1,none⟩) 3 23,.int .u64 x] w fun e s=>e=.returned (.tuple #[])/\Digs s a [48+x / 100,48+x / 10 % 10,48+x % 10]/\Below a w s:=by
 obtain⟨A,c1⟩:=i 1 (by omega);obtain⟨B,c2⟩:=i 2 (by omega);obtain⟨C,t⟩:=i 3 (by omega);clear i;have G:=qay;go_enter Tryz.func186,Tryz.ntmps186
 go_name_bytes SM hSM
 have l:SM=Lib.smalls:=by rw[<-hSM];decide +kernel
 subst l;clear hSM;go_wp2
 go_loop [1,4] (fun u v=>u=.int .u64 x/\v=.int .i64 3) (fun _ _=>0)
 case atStart=>exact⟨rfl,rfl⟩
 case round =>
  obtain⟨rfl,rfl⟩:=hrel
  go_upto_region 23 with fail
  go_name_slot 16 x0 hx0
  have o:∃k:Nat,k<100/\x0=((k * 2:Nat):Int)/\(k:Int)=x % 100:=⟨(x % 100).toNat,by omega,by omega,by omega⟩
  obtain⟨b,f,m,n⟩:=o;have c:∀w,(Instr.index 9 (.string Lib.smalls) (.int .u32 (x0+1))).run Tryz.prog w=.ok (.int .u8 ((Lib.sm (b * 2+1)).toNat:Int)) w:=Lib.idx_smalls 9 Tryz.underlying9 .u32 _ _ (by omega) (by omega);have d:∀w,(Instr.index 9 (.string Lib.smalls) (.int .u32 x0)).run Tryz.prog w=.ok (.int .u8 ((Lib.sm (b * 2)).toNat:Int)) w:=Lib.idx_smalls 9 Tryz.underlying9 .u32 _ _ (by omega) (by omega)
  have y:0<=x0/\x0<=198:=by omega
  obtain⟨q,r⟩:=qhg b f
  have h:Hid (((Lib.sm (b * 2)).toNat:Int)=48+x / 10 % 10/\((Lib.sm (b * 2+1)).toNat:Int)=48+x % 10):=by
   refine⟨?_,?_⟩
   ·rw[q];omega
   ·rw[r];omega
  generalize ((Lib.sm (b * 2)).toNat:Int)=H at d h;generalize ((Lib.sm (b * 2+1)).toNat:Int)=I at c h;clear q r hx0 m n f;go_region;go_wp2;go_end0;refine⟨rfl,?_,?_⟩
  ·rw[<-h.out.1,<-h.out.2];intro j z
   match j,z with
   | 0,_=>simp[go_sem,c1]
   | 1,_=>simp[go_sem,c2]
   | 2,_=>simp[go_sem,t]
  ·exact((((Below.refl a w).setCell (p:=⟨a,3,none⟩) (Nat.le_refl _) _).setCell (p:=⟨a,2,none⟩) (Nat.le_refl _) _).setCell (p:=⟨a,1,none⟩) (Nat.le_refl _) _).drew
theorem qr4:((List.range 10000).all fun n=>decide (n<100) || (dg 6 n [] == (if n<1000 then [UInt8.ofNat (48+n / 100),UInt8.ofNat (48+n / 10 % 10),UInt8.ofNat (48+n % 10)] else [UInt8.ofNat (48+n / 1000),UInt8.ofNat (48+n / 100 % 10),UInt8.ofNat (48+n / 10 % 10),UInt8.ofNat (48+n % 10)])))=true:=by kernel_rfl
theorem qge(n:Nat)(w:World)(J:n<=9999)(D:Pow w):Calls Tryz.prog 175 #[.int .i64 n,.int .i64 10] w fun e c=>∃t,e=.returned (.string t)/\by8 t=dg 6 n []/\Below w.heap.size w c:=by
 by_cases E:n<100
 ·have B:Hid (∀W:World,Calls Tryz.prog 184 #[.int .i64 n] W fun e c=>∃t,e=.returned (.string t)/\by8 t=dg 6 n []/\c=W):=fun W=>qk6 n W E
  have K:(n:Int)<100:=by omega
  go_enter Tryz.func175,Tryz.ntmps175;go_wp2_with fail;refine(B.out _).mono ?_;rintro e w1 ⟨t,rfl,F,rfl⟩;have l:Hid (by8 t=dg 6 n []):=F;clear F B;go_wp2_with fail;go_ret;exact⟨t,rfl,l.out,Below.refl _ _⟩
 ·have y:=List.all_eq_true.1 qr4 n (List.mem_range.2 (by omega));rw[decide_eq_false E,Bool.false_or,beq_iff_eq]at y
  have H1:Hid (∀W:World,Pow W->Calls Tryz.prog 185 #[.int .u64 n] W fun e c=>e=.returned (.int .i64 (if n<1000 then 3 else 4:Nat))/\c=W):=fun W G=>qgd n W (by omega) J G
  have C:Hid (Pow w):=D;have d:Hid (dg 6 n []=(if n<1000 then [UInt8.ofNat (48+n / 100),UInt8.ofNat (48+n / 10 % 10),UInt8.ofNat (48+n % 10)] else [UInt8.ofNat (48+n / 1000),UInt8.ofNat (48+n / 100 % 10),UInt8.ofNat (48+n / 10 % 10),UInt8.ofNat (48+n % 10)])):=y;clear y D
  have I:¬(n:Int)<100:=by omega
  obtain⟨Z,A⟩:∃Z:Array Value,Z=#[.int .u8 0,.int .u8 0,.int .u8 0,.int .u8 0,.int .u8 0,.int .u8 0,.int .u8 0,.int .u8 0,.int .u8 0,.int .u8 0,.int .u8 0,.int .u8 0,.int .u8 0,.int .u8 0,.int .u8 0,.int .u8 0,.int .u8 0,.int .u8 0,.int .u8 0,.int .u8 0,.int .u8 0,.int .u8 0,.int .u8 0,.int .u8 0]:=⟨_,rfl⟩
  have p:Hid (∀j,j<24->∃g:Int,(w.alloc (.cells Z 201)).cell? ⟨w.heap.size,j,none⟩=some (.int .u8 g)):=fun j H=>by
   refine⟨0,?_⟩;rw[World.cell?_alloc_mark]
   have e:Z=(List.replicate 24 (Value.int .u8 0)).toArray:=by rw[A];rfl
   rw[e,List.getElem?_toArray,List.getElem?_replicate,if_pos H]
  have o:Hid (∀j,(w.alloc (.cells Z 201)).frozen? ⟨w.heap.size,j,none⟩=false):=fun j=>qi (heap_alloc_new _ _) j
  have v:Hid (Below w.heap.size w (w.alloc (.cells Z 201))/\Pow (w.alloc (.cells Z 201))):=⟨qb _ _,C.out.below (qb _ _)⟩
  go_enter Tryz.func175,Tryz.ntmps175;go_wp2_with fail;rw[<-A];generalize w.alloc (.cells Z 201)=w1 at p o v ⊢
  obtain⟨a,k⟩:∃a,Hid (a=w.heap.size):=⟨_,rfl⟩
  rw[<-k.out]at p o ⊢;refine(H1.out _ v.out.2).mono ?_;rintro e w2 ⟨rfl,rfl⟩;clear H1 C A
  by_cases x:n<1000
  ·rw[if_pos x]
   have b:Hid (dg 6 n []=[UInt8.ofNat (48+n / 100),UInt8.ofNat (48+n / 10 % 10),UInt8.ofNat (48+n % 10)]):=by have:=d.out;rwa [if_pos x]at this
   have q:Hid (Calls Tryz.prog 186 #[.slice (some ⟨a,1,none⟩) 3 23,.int .u64 n] w2 fun e c=>e=.returned (.tuple #[])/\Digs c a [48+(n:Int) / 100,48+(n:Int) / 10 % 10,48+(n:Int) % 10]/\Below a w2 c):=qmx n a w2 (by omega) (by omega) p.out o.out;clear d p o;go_wp2_with fail;refine q.out.mono ?_;rintro e f ⟨rfl,s,r⟩
   have m:(convert 56 9 (.slice (some ⟨a,1,none⟩) 3 23)).run Tryz.prog f=.ok (.string (strOfNums [48+(n:Int) / 100,48+(n:Int) / 10 % 10,48+(n:Int) % 10])) f:=run_convert_bytes_arg f 56 5 Tryz.underlying56 Tryz.underlying5 a 1 3 23 _ rfl (fun i u=>by
    have:=s i u;rw[this,List.getD_eq_getElem?_getD,List.getElem?_eq_getElem (by exact u)]
    rfl) 9 Tryz.underlying9
   have l:Hid (by8 (strOfNums [48+(n:Int) / 100,48+(n:Int) / 10 % 10,48+(n:Int) % 10])=dg 6 n []):=by
    show _=_;rw[b.out];have h:by8 (strOfNums [48+(n:Int) / 100,48+(n:Int) / 10 % 10,48+(n:Int) % 10])=[UInt8.ofNat (48+(n:Int) / 100).toNat,UInt8.ofNat (48+(n:Int) / 10 % 10).toNat,UInt8.ofNat (48+(n:Int) % 10).toNat]:=rfl;rw[h];simp only[List.cons.injEq,and_true];refine⟨?_,?_,?_⟩
    all_goals congr 1
   have z:Hid (Below w.heap.size w f):=(v.out.1).trans (by rw[<-k.out];exact r)
   generalize strOfNums [48+(n:Int) / 100,48+(n:Int) / 10 % 10,48+(n:Int) % 10]=t at m l;clear s r q b;go_wp2_with fail;go_ret;exact⟨t,rfl,l.out,z.out⟩
  ·rw[if_neg x]
   have b:Hid (dg 6 n []=[UInt8.ofNat (48+n / 1000),UInt8.ofNat (48+n / 100 % 10),UInt8.ofNat (48+n / 10 % 10),UInt8.ofNat (48+n % 10)]):=by have:=d.out;rwa [if_neg x]at this
   have q:Hid (Calls Tryz.prog 186 #[.slice (some ⟨a,1,none⟩) 4 23,.int .u64 n] w2 fun e c=>e=.returned (.tuple #[])/\Digs c a [48+(n:Int) / 1000,48+(n:Int) / 100 % 10,48+(n:Int) / 10 % 10,48+(n:Int) % 10]/\Below a w2 c):=qmw n a w2 (by omega) (by omega) p.out o.out;clear d p o;go_wp2_with fail;refine q.out.mono ?_;rintro e f ⟨rfl,s,r⟩
   have m:(convert 56 9 (.slice (some ⟨a,1,none⟩) 4 23)).run Tryz.prog f=.ok (.string (strOfNums [48+(n:Int) / 1000,48+(n:Int) / 100 % 10,48+(n:Int) / 10 % 10,48+(n:Int) % 10])) f:=run_convert_bytes_arg f 56 5 Tryz.underlying56 Tryz.underlying5 a 1 4 23 _ rfl (fun i u=>by
    have:=s i u;rw[this,List.getD_eq_getElem?_getD,List.getElem?_eq_getElem (by exact u)]
    rfl) 9 Tryz.underlying9
   have l:Hid (by8 (strOfNums [48+(n:Int) / 1000,48+(n:Int) / 100 % 10,48+(n:Int) / 10 % 10,48+(n:Int) % 10])=dg 6 n []):=by
    show _=_;rw[b.out];have h:by8 (strOfNums [48+(n:Int) / 1000,48+(n:Int) / 100 % 10,48+(n:Int) / 10 % 10,48+(n:Int) % 10])=[UInt8.ofNat (48+(n:Int) / 1000).toNat,UInt8.ofNat (48+(n:Int) / 100 % 10).toNat,UInt8.ofNat (48+(n:Int) / 10 % 10).toNat,UInt8.ofNat (48+(n:Int) % 10).toNat]:=rfl;rw[h];simp only[List.cons.injEq,and_true];refine⟨?_,?_,?_,?_⟩
    all_goals congr 1
   have z:Hid (Below w.heap.size w f):=(v.out.1).trans (by rw[<-k.out];exact r)
   generalize strOfNums [48+(n:Int) / 1000,48+(n:Int) / 100 % 10,48+(n:Int) / 10 % 10,48+(n:Int) % 10]=t at m l;clear s r q b;go_wp2_with fail;go_ret;exact⟨t,rfl,l.out,z.out⟩
theorem qmy(n:Nat)(w:World)(g:n<=9999)(h:Pow w):Calls Tryz.prog 147 #[.int .i64 n] w fun e c=>∃t,e=.returned (.string t)/\by8 t=dg 6 n []/\Below w.heap.size w c:=by
 have H1:Hid (Calls Tryz.prog 175 #[.int .i64 n,.int .i64 10] w fun e c=>∃t,e=.returned (.string t)/\by8 t=dg 6 n []/\Below w.heap.size w c):=qge n w g h
 have f:Hid (Calls Tryz.prog 165 #[.int .i64 n] w fun e c=>∃t,e=.returned (.string t)/\by8 t=dg 6 n []/\Below w.heap.size w c):=by
  show Calls _ _ _ _ _;go_enter Tryz.func165,Tryz.ntmps165;go_wp2_with fail;refine H1.out.mono ?_;rintro e w1 ⟨t,rfl,b,a⟩
  have d:Hid (by8 t=dg 6 n []/\Below w.heap.size w w1):=⟨b,a⟩
  clear b a;go_wp2_with fail;go_ret;exact⟨t,rfl,d.out⟩
 go_enter Tryz.func147,Tryz.ntmps147;go_wp2_with fail;refine f.out.mono ?_;rintro e w1 ⟨t,rfl,b,a⟩
 have d:Hid (by8 t=dg 6 n []/\Below w.heap.size w w1):=⟨b,a⟩
 clear b a;go_wp2_with fail;go_ret;exact⟨t,rfl,d.out⟩
theorem Tryz.info9:(Tryz.prog.info? 9).map (fun i=>(i.zero,i.size,i.bytes))=some (some (.string ⟨#[]⟩),1,16):=by kernel_rfl
def tx (L:List (List (List UInt8))):List UInt8:=L.flatMap qbn
def OkL (L:List (List (List UInt8))):Prop:=∀ws∈L,ws.length<=1000/\∀x∈ws,x.length<=100
theorem qeb(a b:List (List (List UInt8))):tx (a++b)=tx a++tx b:=by unfold tx;rw[List.flatMap_append]
theorem qr5(x:List (List UInt8)):tx [x]=qbn x:=by unfold tx;simp
theorem qjy{a:List (List UInt8)}(h:a.length<=1000)(b:∀x∈a,x.length<=100):(qbn a).length<=102000:=by
 unfold qbn
 cases a with
 | nil=>simp[jn]
 | cons x r =>
  have d:=qcf r (fun y c=>b y (List.mem_cons_of_mem _ c));have f:=b x List.mem_cons_self;unfold jn;rw[List.length_append,List.length_append];rw[List.length_cons]at h;simp only[List.length_cons,List.length_nil];omega
theorem qh1{L:List (List (List UInt8))}(h:OkL L):(tx L).length<=102000 * L.length:=by
 induction L with
 | nil=>simp[tx]
 | cons x r ih =>
  have c:=ih (fun y b=>h y (List.mem_cons_of_mem _ b));have a:=h x List.mem_cons_self;have d:=qjy a.1 a.2;have e:tx (x :: r)=qbn x++tx r:=rfl;rw[e,List.length_append,List.length_cons];omega
theorem OkL.snoc{L:List (List (List UInt8))}{a:List (List UInt8)}(h:OkL L)(b:a.length<=1000)(c:∀x∈a,x.length<=100):OkL (L++[a]):=fun y d=>by
 rcases List.mem_append.1 d with h3 | h3
 ·exact h y h3
 ·rw[List.mem_singleton]at h3;subst h3;exact⟨b,c⟩
theorem qch(l:List ByteArray)(d:Option Addr)(n a b:Nat)(v:Value)(L:List (List (List UInt8)))(w:World)(q:Row w 1 d n a (strC l))(h:n=l.length)(k:1<=n)(c:n<=1000)(i:∀x∈l,x.size<=100)(p:Bld w b v (tx L))(g:OkL L)(s:L.length<=400):
  Calls Tryz.prog 146 #[.pointer (some ⟨b,0,none⟩),.slice d n a] w fun e f=>∃v',e=.returned (.tuple #[])/\Bld f b v' (tx (L++[l.map by8]))/\OkL (L++[l.map by8])/\za w b v f v':=by
 refine(qiv l d n a b v (tx L) w q h k c i p (by have:=qh1 g;omega)).mono ?_
 rintro e f ⟨v',rfl,m,o⟩;refine⟨v',rfl,by rw[qeb,qr5];exact m,g.snoc (by rw[List.length_map,<-h];exact c) (fun x j=>?_),o⟩
 rw[List.mem_map]at j;obtain⟨y,r,rfl⟩:=j;rw[qy];exact i y r
theorem qk7(a b:List ByteArray):strC (a++b)=strC a++strC b:=by unfold strC;rw[List.map_append]
theorem yq(a:List ByteArray):(strC a).length=a.length:=by unfold strC;rw[List.length_map]
theorem qpi(l:List ByteArray):∀u∈strC l,u.oneCell'=true:=by
 intro u a;unfold strC at a;rw[List.mem_map]at a;obtain⟨s,-,rfl⟩:=a;rfl
def OwnS (w:World) (base:Nat) (v:Value) (l:List ByteArray):Prop:=w.ownsRow base 9 1 v l.length (strC l)
theorem OwnS.addRow{w:World}{a:Nat}{v:Value}{l d:List ByteArray}{B:Option Addr}{m y:Nat}(h:OwnS w a v l)(H:Row w 1 B m y (strC d))(E:a<=w.heap.size)(J:l.length+d.length<=100000)(G:m=d.length):
  ∃f n c i,(Builtin.append_ #[28,28] 28 #[v,.slice B m y]).run Tryz.prog w=.ok (.slice f n c) i/\n=(l++d).length/\OwnS i a (.slice f n c) (l++d)/\Below a w i:=by
 obtain⟨A,z,s,t,x⟩:=info_parts Tryz.info9
 rcases H.lies with ⟨rfl,h0,h0c⟩ | ⟨b,o,rfl,hc⟩
 ·have r:d=[]:=List.eq_nil_of_length_eq_zero (by omega);subst r h0 h0c;have p:=run_append_owned_none (P:=Tryz.prog) (w:=w) a 28 28 9 A 1 Tryz.underlying28 z v l.length (strC l) h;obtain⟨f,c,rfl,-⟩:=zh h;exact⟨f,l.length,c,w,p,by simp,by rw[List.append_nil];exact h,Below.refl _ _⟩
 ·subst G
  obtain⟨v',i,q,C,D,-⟩:=run_append_own (P:=Tryz.prog) w a 28 28 9 A _ 1 16 Tryz.underlying28 z s t x rfl (by decide) v l.length (strC l) h ⟨b,o,none⟩ d.length y (strC d) (by rw[yq,Nat.mul_one])
   (fun j u I=>by rw[Addr.add_lit];exact hc j u I) (qpi d) (by unfold maxLen;omega) (by omega) E
  have k:OwnS i a v' (l++d):=by unfold OwnS;rw[qk7,List.length_append];exact C
  obtain⟨f,c,rfl,-⟩:=zh k;exact⟨f,_,c,i,q,rfl,k,(Below.refl a w).grown D (by omega) (fun g F=>(World.ownsRow.lt h g F).1)⟩
theorem OwnS.row{w:World}{a n:Nat}{b:Option Addr}{c:Nat}{l:List ByteArray}(h:OwnS w a (.slice b n c) l)(d:n=l.length):Row w 1 b n c (strC l):=by subst d;exact Row.of_own h
theorem OwnS.below{w b:World}{a:Nat}{v:Value}{l:List ByteArray}(h:OwnS w a v l)(c:Below w.heap.size w b):OwnS b a v l :=
 qh h (fun i d=>c.block i (World.ownsRow.lt h i d).2)
theorem vx(w:World)(l:List ByteArray)(h:l.length<=1000):Row (w.alloc (.cells (strC l).toArray 9)) 1 (some ⟨w.heap.size,0,none⟩) l.length l.length (strC l):=by
 refine⟨by rw[yq,Nat.mul_one],Nat.le_refl _,by unfold maxLen;omega,.inr ⟨_,_,rfl,fun j u a=>?_⟩⟩
 rw[World.cell?_alloc_mark,Nat.zero_add,List.getElem?_toArray];exact a
theorem qhh(w:World)(l:List ByteArray)(h:l.length<=1000):OwnS (w.alloc (.cells (strC l).toArray 9)) w.heap.size (.slice (some ⟨w.heap.size,0,none⟩) l.length l.length) l:=by
 refine⟨by rw[yq,Nat.mul_one],.inr ⟨w.heap.size,l.length,(strC l).toArray,rfl,Nat.le_refl _,heap_alloc_new _ _,Nat.le_refl _,by unfold maxLen;omega,by simp[yq],?_⟩⟩
 rw[List.toList_toArray,List.take_of_length_le (by rw[yq];omega)]
def keyA (a:Int):ByteArray:=if a=1 then ⟨#[37,108,101,102,116]⟩ else if a=2 then ⟨#[37,114,105,103,104,116]⟩ else ⟨#[37,110,111,110,97,115,115,111,99]⟩
theorem qn0(a:Int):(keyA a).size<=100:=by
 unfold keyA
 split
 ·exact(by decide:(⟨#[37,108,101,102,116]⟩:ByteArray).size<=100)
 ·split
  ·exact(by decide:(⟨#[37,114,105,103,104,116]⟩:ByteArray).size<=100)
  ·exact(by decide:(⟨#[37,110,111,110,97,115,115,111,99]⟩:ByteArray).size<=100)
theorem qhi(a:Int)(w:World):Calls Tryz.prog 172 #[.int .i64 a] w fun e f=>e=.returned (.string (keyA a))/\f=w:=by
 by_cases b:a=1
 ·subst b;go_enter Tryz.func172,Tryz.ntmps172;go_wp2;go_ret;exact⟨rfl,rfl⟩
 ·by_cases c:a=2
  ·subst c;go_enter Tryz.func172,Tryz.ntmps172;go_wp2;go_ret;exact⟨rfl,rfl⟩
  ·have g:(a == 1)=false:=by simpa using b
   have h:(a == 2)=false:=by simpa using c
   have d:Hid (keyA a=⟨#[37,110,111,110,97,115,115,111,99]⟩):=by show _=_;unfold keyA;rw[if_neg b,if_neg c]
   go_enter Tryz.func172,Tryz.ntmps172;go_wp2;go_ret;exact⟨by rw[d.out];rfl,rfl⟩
def zy (ts:List Tk) (k:Int):List ByteArray:=(ts.filter fun t=>t.l == k).map (·.n)
theorem qjz(ts:List Tk)(t:Tk)(k:Int):zy (ts++[t]) k=zy ts k++(if t.l == k then [t.n] else []):=by
 unfold zy;rw[List.filter_append,List.map_append]
 congr 1
 cases h:(t.l == k) <;> simp[h]
theorem qcx(ts:List Tk)(k:Int):(zy ts k).length<=ts.length:=by
 unfold zy;rw[List.length_map];exact List.length_filter_le _ _
theorem qgf(ts:List Tk)(P:Option Addr)(n j:Nat)(k a:Int)(w:World)(s:Row w 3 P n j (tokC ts))(Z:n=ts.length)(a4:n<=100):
  Calls Tryz.prog 161 #[.slice P n j,.int .i64 k,.int .i64 a] w fun e M=>∃xa m xc,e=.returned (.slice xa m xc)/\m=(keyA a :: zy ts k).length/\Row M 1 xa m xc (strC (keyA a :: zy ts k))/\Below w.heap.size w M:=by
 have N:Hid (n=ts.length):=Z;have HR:Hid (Row w 3 P n j (tokC ts)):=s;have a0:=s.le
 have a3:j<=9223372036854775807:=by have:=s.max;unfold maxLen at this;omega
 have V:Hid (∀W:World,Calls Tryz.prog 172 #[.int .i64 a] W fun e M=>e=.returned (.string (keyA a))/\M=W):=fun W=>qhi a W
 have C:Hid (OwnS (w.alloc (.cells #[.string (keyA a)] 9)) w.heap.size (.slice (some ⟨w.heap.size,0,none⟩) 1 1) [keyA a]/\Below w.heap.size w (w.alloc (.cells #[.string (keyA a)] 9))):=⟨qhh w [keyA a] (by simp),qb _ _⟩
 generalize keyA a=r at V C ⊢;clear s Z;go_enter Tryz.func161,Tryz.ntmps161;go_wp2_with fail;refine(V.out _).mono ?_;rintro e w9 ⟨rfl,a5⟩;subst w9
 go_upto_region 2 with fail
 generalize U:w.alloc (.cells #[.string r] 9)=w1 at C ⊢;clear U;go_wp2
 go_loopg [7,15] n (fun kx s7 s15 wr=>∃(i:Nat) (x:Option Addr × Nat × Nat),s7=.slice x.1 x.2.1 x.2.2/\s15=.int .i64 i/\i<=n/\n - i<=kx/\Hid (∃l:List ByteArray,l=r :: zy (ts.take i) k/\x.2.1=l.length/\OwnS wr w.heap.size (.slice x.1 x.2.1 x.2.2) l/\Below w.heap.size w wr))
 case atStart=>exact⟨0,(some ⟨w.heap.size,0,none⟩,1,1),rfl,rfl,Nat.zero_le _,by omega,(⟨[r],rfl,rfl,C.out.1,C.out.2⟩:∃l:List ByteArray,l=r :: zy (ts.take 0) k/\1=l.length/\OwnS w1 w.heap.size (.slice (some ⟨w.heap.size,0,none⟩) 1 1) l/\Below w.heap.size w w1)⟩
 case round =>
  obtain⟨i,⟨u,h,v⟩,rfl,rfl,hi,hg,J⟩:=hrel;simp only at J;obtain⟨l,E,g,d,c⟩:=J.out
  have z:Hid (l=r :: zy (ts.take i) k/\h=l.length/\OwnS wr w.heap.size (.slice u h v) l/\Below w.heap.size w wr):=⟨E,g,d,c⟩
  have a1:l.length<=101:=by
   rw[E,List.length_cons];have:=qcx (ts.take i) k;rw[List.length_take,<-N.out]at this;omega
  clear J C
  by_cases R:i<n
  ·obtain⟨t,T⟩:∃t,ts[i]?=some t:=⟨ts[i]'(by rw[<-N.out];exact R),List.getElem?_eq_getElem _⟩
   obtain⟨b,o,rfl,c0,c1,c2⟩:=ja (HR.out.below c) T
   have I:Hid (zy (ts.take (i+1)) k=zy (ts.take i) k++(if t.l == k then [t.n] else [])):=by show _=_;rw[zn T,qjz]
   obtain⟨f,q,H⟩:=t;simp only at c0 c1 c2;clear T;clear E g
   go_upto_region 5 with fail
   have A:Hid (OwnS (wr.alloc (.cells #[.string f,.int .i64 q,.int .i64 H] 58)) w.heap.size (.slice u h v) l/\Below w.heap.size w (wr.alloc (.cells #[.string f,.int .i64 q,.int .i64 H] 58))):=⟨d.below (qb _ _),qd c (qb _ _)⟩
   have X:(wr.alloc (.cells #[.string f,.int .i64 q,.int .i64 H] 58)).cell? ⟨wr.heap.size,0,none⟩=some (.string f):=by rw[World.cell?_alloc_mark];rfl
   have Y:(wr.alloc (.cells #[.string f,.int .i64 q,.int .i64 H] 58)).cell? ⟨wr.heap.size,1,none⟩=some (.int .i64 q):=by rw[World.cell?_alloc_mark];rfl
   generalize wr.alloc (.cells #[.string f,.int .i64 q,.int .i64 H] 58)=y at A X Y ⊢;generalize wr.heap.size=tb at X Y ⊢;clear c0 c1 c2 d c
   by_cases p:q=k
   ·have Q:(q == k)=true:=by simpa using p
    have hA:=(A.out.1.below (qb y (.cells #[.string f] 9))).addRow (vx y [f] (by simp)) (by have:=A.out.2.size;simp;omega) (by simp;omega) rfl
    obtain⟨O,L,c2,w2,s,F,G,D⟩:=hA;have S:(Builtin.append_ #[28,28] 28 #[.slice u h v,.slice (some ⟨y.heap.size,0,none⟩) 1 1]).run Tryz.prog (y.alloc (.cells #[.string f] 9))=.ok (.slice O L c2) w2:=s
    have B:Hid (∃l:List ByteArray,l=r :: zy (ts.take (i+1)) k/\L=l.length/\OwnS w2 w.heap.size (.slice O L c2) l/\Below w.heap.size w w2):=by
     refine⟨l++[f],?_,F,G,?_⟩
     ·have e:zy (ts.take (i+1)) k=zy (ts.take i) k++[f]:=by rw[I.out];simp[Q]
      rw[e,z.out.1];rfl
     ·have K:Below w.heap.size w (y.alloc (.cells #[.string f] 9)):=qd A.out.2 (qb _ _);exact K.trans D
    clear s F G D I z p;go_wp2_with(at_builtin;refine Lib.wpList_append_run _ rfl _ _ _ _ rfl _ _ rfl rfl _ _ S ?_)
    go_roundg (n - (i+1))
    case measure=>omega
    case rel=>exact⟨i+1,(O,L,c2),rfl,by simp,by omega,Nat.le_refl _,B⟩
   ·have Q:(q == k)=false:=by simpa using p
    have B:Hid (∃l:List ByteArray,l=r :: zy (ts.take (i+1)) k/\h=l.length/\OwnS y w.heap.size (.slice u h v) l/\Below w.heap.size w y):=by
     refine⟨l,?_,z.out.2.1,A.out.1,A.out.2⟩
     have e:zy (ts.take (i+1)) k=zy (ts.take i) k:=by rw[I.out];simp[Q]
     rw[e];exact z.out.1
    clear I z p;go_wp2_with fail;go_roundg (n - (i+1))
    case measure=>omega
    case rel=>exact⟨i+1,(u,h,v),rfl,by simp,by omega,Nat.le_refl _,B⟩
  ·obtain rfl:i=n:=by omega
   have B:Hid (l=r :: zy ts k/\h=l.length/\Row wr 1 u h v (strC l)/\Below w.heap.size w wr):=by
    refine⟨?_,g,d.row g,c⟩;rw[E,N.out,List.take_length]
   clear z E g d c;go_wp2_with fail;go_ret;obtain⟨K,h2,h3,h4⟩:=B.out;exact⟨u,h,v,rfl,by rw[h2,K,List.length_cons],by rw[<-K];exact h3,h4⟩
end Go.Proofs.YtngclmglmhiljaaGreatDoor
