/- Texts that the proofs of the Auto statements stand on, part Prf04. -/
import Derived.Laws.StructEq
import Derived.Laws.Externs
import Derived.Laws.Shifts
import Derived.Laws.Bits
import Derived.Lib.ItoaWalk
import Derived.Lib.ItoaNum
import Derived.Lib.BitFns
import Derived.RegionTactic
import Derived.Laws.OwnMore
import Derived.Test.YtbdogaaooeoccaaGreatDoorPrf03
set_option maxHeartbeats 16000000
set_option maxRecDepth 100000
namespace Go.Proofs.YtbdogaaooeoccaaGreatDoor
open Go.RowKit
theorem qb6(s:ByteArray)(w:World)(i:s.size<=100)(r:Bool)(c:r=true↔xw s):Calls Tryz.prog 145 #[.string s] w fun e d=>e=.returned (.bool r)/\d=w:=by
 have f:Hid (∀W:World,Calls Tryz.prog 158 #[.string s] W fun e d=>e=.returned (.bool (nameOk (by8 s)))/\d=W):=fun W=>vv s W (by omega)
 by_cases a:s=⟨#[]⟩
 ·have g:=(zy s).2 a;have b:=hid (c.2 (.inl a));clear c a;go_enter Tryz.func145,Tryz.ntmps145;go_wp2;go_ret;exact⟨by rw[b.out];rfl,rfl⟩
 ·have g:(s.toList == [])=false:=by
   cases h:(s.toList == [])
   ·rfl
   ·exact absurd ((zy s).1 h) a
  have b:Hid (r=nameOk (by8 s)):=by
   show _=_;rw[Bool.eq_iff_iff,c];unfold xw kd;simp[a]
  generalize nameOk (by8 s)=m at f b;clear c a;go_enter Tryz.func145,Tryz.ntmps145;go_wp2_with(go_at_call 158;refine(f.out _).mono ?_;rintro e w1 ⟨rfl,rfl⟩)
  go_ret;exact⟨by rw[b.out];rfl,rfl⟩
theorem qi3(j:Ru)(z:Option Addr)(q:Nat)(w:World)(G:Row w 1 z j.r.length q (strC j.r))(H:j.l.size<=100/\j.p.size<=100/\j.r.length<=100/\∀x∈j.r,x.size<=100)(r:Bool)(V:r=true↔j5 j):
  Calls Tryz.prog 161 #[.agg #[.string j.l,.slice z j.r.length q,.string j.p]] w fun e v=>e=.returned (.bool r)/\Below w.heap.size w v:=by
 obtain⟨u,c,B⟩:=j;simp only at G H ⊢;have C:=hid V;have O:=hid G;have F:=G.le
 have Z:q<=9223372036854775807:=by have:=G.max;unfold maxLen at this;omega
 have s:=H.2.2.1;have X:=hid H.2.2.2
 have H1:Hid (∀W:World,Calls Tryz.prog 158 #[.string u] W fun e v=>e=.returned (.bool (nameOk (by8 u)))/\v=W):=fun W=>vv u W (by omega)
 obtain⟨S,t⟩:=zv (xw B)
 have I:Hid (∀W:World,Calls Tryz.prog 145 #[.string B] W fun e v=>e=.returned (.bool S)/\v=W):=fun W=>qb6 B W H.2.1 S t
 have D:=hid t;have L:=hid (qb w);clear G H V t
 by_cases m:c.length<=20
 ·obtain⟨n,M⟩:∃n,Hid (c.length=n):=⟨_,rfl⟩
  rw[M.out]at O F s m ⊢
  cases a:nameOk (by8 u)
  ·rw[a]at H1;have g:=hid (zj C.out (fun h=>by have:=h.1;unfold kd at this;simp only at this;rw[a]at this;cases this))
   clear a;go_enter Tryz.func161,Tryz.ntmps161;go_wp2_with(first | (go_at_call 158;refine(H1.out _).mono ?_;rintro e w1 ⟨rfl,rfl⟩))
   go_ret;exact⟨by rw[g.out];rfl,L.out _⟩
  ·rw[a]at H1
   cases f:S
   ·rw[f]at I;have g:=hid (zj C.out (fun h=>by have:=D.out.2 h.2.2.1;rw[f]at this;cases this))
    clear a f;go_enter Tryz.func161,Tryz.ntmps161;go_wp2_with(first | (go_at_call 158;refine(H1.out _).mono ?_;rintro e w1 ⟨rfl,rfl⟩) | (go_at_call 145;refine(I.out _).mono ?_;rintro e w1 ⟨rfl,rfl⟩))
    go_ret;exact⟨by rw[g.out];rfl,L.out _⟩
   ·rw[f]at I
    have N:Hid (kd u/\xw B/\c.length<=20):=⟨a,D.out.1 f,by rw[M.out];exact m⟩
    clear a f;go_enter Tryz.func161,Tryz.ntmps161;go_wp2_with(first | (go_at_call 158;refine(H1.out _).mono ?_;rintro e w1 ⟨rfl,rfl⟩) | (go_at_call 145;refine(I.out _).mono ?_;rintro e w1 ⟨rfl,rfl⟩))
    have E:Hid (Row (w.alloc (.cells #[.string u,.slice z n q,.string B] 42)) 1 z n q (strC c)/\Below w.heap.size w (w.alloc (.cells #[.string u,.slice z n q,.string B] 42))):=⟨O.out.below (qb _ _),L.out _⟩
    go_loopg [24] n (fun kx s24 wr=>∃k:Nat,s24=.int .i64 k/\k<=n/\n - k<=kx/\Hid ((Row wr 1 z n q (strC c)/\Below w.heap.size w wr)/\∀i x,i<k->c[i]?=some x->kd x))
    case atStart=>exact⟨0,rfl,Nat.zero_le _,by omega,(⟨E.out,fun i x h=>absurd h (Nat.not_lt_zero _)⟩:(Row _ 1 z n q (strC c)/\Below w.heap.size w _)/\∀i x,i<0->c[i]?=some x->kd x)⟩
    case round =>
     obtain⟨k,rfl,hk,hg,J⟩:=hrel;clear E
     by_cases Q:k<n
     ·obtain⟨x,A⟩:∃x,c[k]?=some x:=⟨c[k]'(by rw[M.out];exact Q),List.getElem?_eq_getElem _⟩
      obtain⟨b,o,rfl,c0⟩:=jy J.out.1.1 A;have T:=hid A
      have K:Hid (∀W:World,Calls Tryz.prog 158 #[.string x] W fun e v=>e=.returned (.bool (nameOk (by8 x)))/\v=W):=fun W=>vv x W (by have:=X.out x (List.mem_of_getElem? A);omega)
      clear A
      cases d:nameOk (by8 x)
      ·rw[d]at K;have g:Hid (r=false):=zj C.out (fun h=>by have:=h.2.2.2 x (List.mem_of_getElem? T.out);unfold kd at this;rw[d]at this;cases this)
       clear d;go_wp2_with(go_at_call 158;refine(K.out _).mono ?_;rintro e w2 ⟨rfl,rfl⟩)
       go_ret;exact⟨by rw[g.out];rfl,J.out.1.2⟩
      ·rw[d]at K
       have g:Hid (∀i x,i<k+1->c[i]?=some x->kd x):=fun i y P R=>by
        rcases Nat.lt_or_ge i k with h | h
        ·exact J.out.2 i y h R
        ·have:i=k:=by omega
         subst this;rw[T.out]at R
         cases R
         exact d
       clear d;go_wp2_with(go_at_call 158;refine(K.out _).mono ?_;rintro e w2 ⟨rfl,rfl⟩)
       go_roundg (n - (k+1))
       case measure=>omega
       case rel=>exact⟨k+1,by simp,by omega,Nat.le_refl _,(⟨J.out.1,g.out⟩:(Row _ 1 (some ⟨b,o,none⟩) n q (strC c)/\Below w.heap.size w _)/\∀i x,i<k+1->c[i]?=some x->kd x)⟩
     ·have g:Hid (r=true):=xh C.out ⟨N.out.1,N.out.2.2,N.out.2.1,fun x A=>by
       obtain⟨i,P⟩:=List.getElem?_of_mem A;have Y:i<c.length:=(List.getElem?_eq_some_iff.1 P).1
       exact J.out.2 i x (by rw[M.out]at Y;omega) P⟩
      go_wp2;go_ret;exact⟨by rw[g.out];rfl,J.out.1.2⟩
 ·have g:=hid (zj C.out (fun h=>m h.2.1));generalize c.length=n at F s m ⊢
  have U:(20:Int)<(n:Int):=by omega
  clear O;go_enter Tryz.func161,Tryz.ntmps161;go_wp2;go_ret;exact⟨by rw[g.out];rfl,L.out _⟩
theorem qhj(rs:List Ru)(E:Option Addr)(n c:Nat)(w:World)(H:jm w E n c rs)(F:n=rs.length)(S:n<=1000)(Q:n<=c)(R:c<=9223372036854775807)(I:∀r∈rs,r.l.size<=100/\r.p.size<=100/\r.r.length<=100/\∀x∈r.r,x.size<=100)(r:Bool)(G:r=true↔∀r∈rs,j5 r):
  Calls Tryz.prog 146 #[.slice E n c] w fun e A=>e=.returned (.bool r)/\Below w.heap.size w A:=by
 have B:=hid F;have M:=hid H;have N:=hid I;have C:=hid G;clear H F I G;go_enter Tryz.func146,Tryz.ntmps146;go_wp2
 go_loopg [7] n (fun kx s7 wr=>∃k:Nat,s7=.int .i64 k/\k<=n/\n - k<=kx/\Hid (Below w.heap.size w wr/\∀i x,i<k->rs[i]?=some x->j5 x))
 case atStart=>exact⟨0,rfl,Nat.zero_le _,by omega,(⟨Below.refl _ _,fun i x h=>absurd h (Nat.not_lt_zero _)⟩:Below w.heap.size w _/\∀i x,i<0->rs[i]?=some x->j5 x)⟩
 case round =>
  obtain⟨k,rfl,U,T,J⟩:=hrel
  by_cases u:k<n
  ·obtain⟨x,g⟩:∃x,rs[k]?=some x:=⟨rs[k]'(by rw[<-B.out];exact u),List.getElem?_eq_getElem _⟩
   obtain⟨b,o,K,L,rfl,c0,c1,c2,d⟩:=(M.out.below J.out.1).at g;have m:=hid g;obtain⟨q,v⟩:=zv (j5 x);have D:=hid v
   have j:Hid (∀W:World,Below wr.heap.size wr W->Calls Tryz.prog 161 #[.agg #[.string x.l,.slice K x.r.length L,.string x.p]] W fun e A=>e=.returned (.bool q)/\Below W.heap.size W A):=fun W O=>qi3 x K L W (d.below O) (N.out x (List.mem_of_getElem? m.out)) q v
   clear g d v
   cases a:q
   ·rw[a]at j;have f:Hid (r=false):=zj C.out (fun h=>by have:=D.out.2 (h x (List.mem_of_getElem? m.out));rw[a]at this;cases this)
    clear a;go_wp2_with(go_at_call 161;refine(j.out _ (qb _ _)).mono ?_;rintro e w2 ⟨rfl,s⟩)
    go_ret;exact⟨by rw[f.out];rfl,qd (qd J.out.1 (qb _ _)) s⟩
   ·rw[a]at j
    have f:Hid (∀i x,i<k+1->rs[i]?=some x->j5 x):=fun i y t z=>by
     rcases Nat.lt_or_ge i k with h | h
     ·exact J.out.2 i y h z
     ·have:i=k:=by omega
      subst this;rw[m.out]at z
      cases z
      exact D.out.1 a
    clear a;go_wp2_with(go_at_call 161;refine(j.out _ (qb _ _)).mono ?_;rintro e w2 ⟨rfl,s⟩)
    go_roundg (n - (k+1))
    case measure=>omega
    case rel=>exact⟨k+1,by simp,by omega,Nat.le_refl _,(⟨qd (qd J.out.1 (qb _ _)) s,f.out⟩:Below w.heap.size w _/\∀i x,i<k+1->rs[i]?=some x->j5 x)⟩
  ·have f:Hid (r=true):=xh C.out (fun x g=>by
    obtain⟨i,t⟩:=List.getElem?_of_mem g;have P:=(List.getElem?_eq_some_iff.1 t).1
    exact J.out.2 i x (by rw[<-B.out]at P;omega) t)
   go_wp2;go_ret;exact⟨by rw[f.out];rfl,J.out.1⟩
def xo (ts:List Tk) (k:Nat):Prop:=∀(i:Nat) (t:Tk),i<k->ts[i]?=some t->kd t.n/\∀(j:Nat) (u:Tk),j<i->ts[j]?=some u->u.n≠t.n
theorem xo.zero(ts:List Tk):xo ts 0:=fun _ _ h=>absurd h (Nat.not_lt_zero _)
theorem xo.succ{ts:List Tk}{k:Nat}{t:Tk}(h:xo ts k)(f:ts[k]?=some t)(d:kd t.n)(hd:¬hasN (ts.take k) t.n):xo ts (k+1):=fun i u l a=>by
 rcases Nat.lt_or_ge i k with h1 | h1
 ·exact h i u h1 a
 ·have:i=k:=by omega
  subst this;rw[f]at a
  cases a
  refine⟨d,fun j v c g b=>hd ⟨v,?_,b⟩⟩
  exact List.mem_of_getElem? (i:=j) (by rw[List.getElem?_take,if_pos c];exact g)
theorem xo.all{ts:List Tk}(h:xo ts ts.length):∀(i:Nat) (t:Tk),ts[i]?=some t->kd t.n/\∀(j:Nat) (u:Tk),j<i->ts[j]?=some u->u.n≠t.n :=
 fun i t a=>h i t (List.getElem?_eq_some_iff.1 a).1 a
theorem qos{ts:List Tk}{k:Nat}{t:Tk}(c:ts[k]?=some t)(hd:hasN (ts.take k) t.n):¬TokP ts:=fun h=>by
 obtain⟨u,d,b⟩:=hd;obtain⟨j,a⟩:=List.getElem?_of_mem d;rw[List.getElem?_take]at a
 split at a
 ·exact(h.1 k t c).2 j u (by assumption) a b
 ·cases a
theorem qgm(ts:List Tk)(H:Option Addr)(n g:Nat)(w:World)(B:Row w 3 H n g (tokC ts))(T:n=ts.length)(M:n<=1000)(V:∀t∈ts,t.n.size<=100)(r:Bool)(U:r=true↔TokP ts):
  Calls Tryz.prog 144 #[.slice H n g] w fun e z=>e=.returned (.bool r)/\Below w.heap.size w z:=by
 have A:=hid T;have F:=hid B;have HS:=hid V;have E:=hid U;have a0:=B.le
 have a1:g<=9223372036854775807:=by have:=B.max;unfold maxLen at this;omega
 clear B T V U;go_enter Tryz.func144,Tryz.ntmps144;go_wp2
 go_loopg [9] n (fun kx s9 wr=>∃k:Nat,s9=.int .i64 k/\k<=n/\n - k<=kx/\Hid (Below w.heap.size w wr/\xo ts k))
 case atStart=>exact⟨0,rfl,Nat.zero_le _,by omega,(⟨Below.refl _ _,xo.zero ts⟩:Below w.heap.size w _/\xo ts 0)⟩
 case round =>
  obtain⟨k,rfl,hk,hg,J⟩:=hrel
  by_cases L:k<n
  ·obtain⟨t,C⟩:∃t,ts[k]?=some t:=⟨ts[k]'(by rw[<-A.out];exact L),List.getElem?_eq_getElem _⟩
   obtain⟨b,o,rfl,c0,c1,c2⟩:=jd (F.out.below J.out.1) C;have G:=hid C;have N:=HS.out t (List.mem_of_getElem? C);obtain⟨p,P,O⟩:=t;simp only at c0 c1 c2 N;clear C
   go_upto_region 4 with fail
   have v:Hid (Below w.heap.size w (wr.alloc (.cells #[.string p,.int .i64 P,.int .i64 O] 40))):=qd J.out.1 (qb _ _);have D:=hid J.out.2
   have x:(wr.alloc (.cells #[.string p,.int .i64 P,.int .i64 O] 40)).cell? ⟨wr.heap.size,0,none⟩=some (.string p):=by rw[World.cell?_alloc_mark];rfl
   generalize wr.alloc (.cells #[.string p,.int .i64 P,.int .i64 O] 40)=u at v x ⊢;generalize wr.heap.size=tb at x ⊢;clear c0 c1 c2 J;have I:=zi x
   have H1:Hid (∀W:World,Calls Tryz.prog 158 #[.string p] W fun e z=>e=.returned (.bool (nameOk (by8 p)))/\z=W):=fun W=>vv p W (by omega)
   obtain⟨d,hd⟩:=zv (hasN (ts.take k) p);have R:=hid hd
   have q:Hid (∀W:World,Below u.heap.size u W->Calls Tryz.prog 159 #[.slice (some ⟨b,o,none⟩) k g,.string p] W fun e z=>e=.returned (.bool d)/\Below W.heap.size W z):=fun W hW=>qi2 (ts.take k) (some ⟨b,o,none⟩) k g p W d hd (qqg (F.out.below (qd v.out hW)) k hk) (by rw[List.length_take,<-A.out];omega) (by omega)
   clear hd
   cases f:nameOk (by8 p)
   ·rw[f]at H1;have s:Hid (r=false):=zj E.out (fun h=>by have:=(h.1 k _ G.out).1;unfold kd at this;simp only at this;rw[f]at this;cases this)
    clear f;refine zn (by kernel_rfl) ?_
    repeat (go_big_quiet_step (first | (go_at_call 158;exact qag (H1.out _)) | (go_at_call 159;exact vl (q.out _ (ke _ _ _)))))
    refine wpQuiet_nil ?_;intro _ m;obtain⟨⟨nq,c⟩,j⟩:=m;subst j;have a:Hid (Below w.heap.size w (onto u nq c)):=qd v.out (ke _ _ _);simp only;generalize onto u nq c=Y at a ⊢;clear I x H1 q;go_wp2;go_ret;exact⟨by rw[s.out];rfl,a.out⟩
   ·rw[f]at H1
    cases i:d
    ·rw[i]at q;have s:=hid (D.out.succ G.out f (fun h=>by have:=R.out.2 h;rw[i]at this;cases this))
     clear f i;refine zn (by kernel_rfl) ?_
     repeat (go_big_quiet_step (first | (go_at_call 158;exact qag (H1.out _)) | (go_at_call 159;exact vl (q.out _ (ke _ _ _)))))
     refine wpQuiet_nil ?_;intro _ m;obtain⟨⟨nq,c⟩,j⟩:=m;subst j;have a:Hid (Below w.heap.size w (onto u nq c)):=qd v.out (ke _ _ _);simp only;generalize onto u nq c=Y at a ⊢;clear I x H1 q;go_wp2;go_roundg (n - (k+1))
     case measure=>omega
     case rel=>exact⟨k+1,by simp,by omega,Nat.le_refl _,(⟨a.out,s.out⟩:Below w.heap.size w _/\xo ts (k+1))⟩
    ·rw[i]at q;have s:=hid (zj E.out (qos G.out (R.out.1 i)));clear f i;refine zn (by kernel_rfl) ?_
     repeat (go_big_quiet_step (first | (go_at_call 158;exact qag (H1.out _)) | (go_at_call 159;exact vl (q.out _ (ke _ _ _)))))
     refine wpQuiet_nil ?_;intro _ m;obtain⟨⟨nq,c⟩,j⟩:=m;subst j;have a:Hid (Below w.heap.size w (onto u nq c)):=qd v.out (ke _ _ _);simp only;generalize onto u nq c=Y at a ⊢;clear I x H1 q;go_wp2;go_ret;exact⟨by rw[s.out];rfl,a.out⟩
  ·obtain rfl:k=n:=by omega
   have D:=hid (xo.all (by rw[<-A.out];exact J.out.2))
   have Q:=qau ts H k g wr (F.out.below J.out.1) A.out M;have y:=hid Q;clear Q;go_wp2_with fail;refine y.out.mono ?_;rintro e w2 ⟨l,X,rfl,K,S⟩
   have s:Hid (r=decide (X=1)):=by
    show _=_;rw[Bool.eq_iff_iff,E.out];unfold TokP;rw[K.2.1];exact⟨fun h=>h.2,fun h=>⟨D.out,h⟩⟩
   have v:=hid (qd J.out.1 S);obtain⟨Z,xb,xc,xd,xe,xf,xg,xi,xj,rfl⟩:=nine K.1;rw[show ar9 [Z,xb,xc,xd,xe,xf,xg,xi,xj]=#[.int .i64 Z,.int .i64 xb,.int .i64 xc,.int .i64 xd,.int .i64 xe,.int .i64 xf,.int .i64 xg,.int .i64 xi,.int .i64 xj] from rfl];generalize decide (X=1)=rb at s;clear K S J y;go_wp2_with fail;go_ret;exact⟨by rw[s.out];rfl,qd v.out (qb _ _)⟩
def qj5 (F:Nat):Prop:=∀(G:Gm) (h:Hd) (w:World) (r:Bool),IsG w h G->(r=true↔MayP G)->Calls Tryz.prog F #[gv h G] w fun e w'=>e=.returned (.bool r)/\Below w.heap.size w w'
theorem kv{w:World}{c:Option Addr}{n a:Nat}{rs:List Ru}(h:jm w c n a rs):n<=a/\a<=9223372036854775807:=by
 obtain⟨qs,-,b,-⟩:=h;have:=b.le;have d:=b.max;unfold maxLen at d;omega
theorem qci:qj5 131:=by
 intro G h w r u Z;obtain⟨ts,f,c,rs⟩:=G;obtain⟨p,i,m,n⟩:=h;have C:=hid Z
 have a0:ts.length<=i/\i<=9223372036854775807:=by have S:=u.tok.le;have T:=u.tok.max;simp only at S T;unfold maxLen at T;omega
 have A:=kv u.rul;simp only at A;have a1:ts.length<=100:=u.small.nt;have a2:rs.length<=200:=u.small.nr;have s:=hid u;unfold gv;simp only;obtain⟨O,v⟩:=zv (TokP ts);have j:=hid v;obtain⟨P,x⟩:=zv (xw f);have k:=hid x;obtain⟨Q,y⟩:=zv (∀r∈rs,j5 r);have l:=hid y
 have H1:Hid (∀W:World,Below w.heap.size w W->Calls Tryz.prog 144 #[.slice p ts.length i] W fun e M=>e=.returned (.bool O)/\Below W.heap.size W M):=fun W Y=>qgm ts p ts.length i W (s.out.tok.below Y) rfl (by omega) s.out.small.tk O v
 have B:Hid (∀W:World,Calls Tryz.prog 145 #[.string f] W fun e M=>e=.returned (.bool P)/\M=W):=fun W=>qb6 f W s.out.small.st P x
 have U:Hid (∀W:World,Below w.heap.size w W->Calls Tryz.prog 146 #[.slice m rs.length n] W fun e M=>e=.returned (.bool Q)/\Below W.heap.size W M):=fun W Y=>qhj rs m rs.length n W (s.out.rul.below Y) rfl (by omega) A.1 A.2 s.out.small.rl Q y
 have N:Hid (MayP ⟨ts,f,c,rs⟩↔ts.length<=40/\rs.length<=100/\TokP ts/\xw f/\0<=c/\c<=9999/\∀r∈rs,j5 r):=⟨fun h=>⟨h.nt,h.nr,h.tk,h.st,h.e0,h.e1,h.rl⟩,fun⟨S,T,D,E,I,J,K⟩=>⟨S,T,I,J,E,D,K⟩⟩
 clear u Z v x y
 by_cases F:ts.length<=40
 ·by_cases t:rs.length<=100
  ·have b:Hid (r=(O && P && decide (0<=c) && decide (c<=9999) && Q)):=by
    show _=_;rw[Bool.eq_iff_iff,C.out,N.out];simp only[Bool.and_eq_true,decide_eq_true_eq,j.out,k.out,l.out]
    constructor
    ·rintro⟨-,-,D,E,I,J,K⟩;exact⟨⟨⟨⟨D,E⟩,I⟩,J⟩,K⟩
    ·rintro⟨⟨⟨⟨D,E⟩,I⟩,J⟩,K⟩;exact⟨F,t,D,E,I,J,K⟩
   generalize ts.length=q at *
   generalize rs.length=o at *
   clear N C j k l s;go_enter Tryz.func131,Tryz.ntmps131
   go_upto_region 3 with fail
   have c0:(w.alloc (.cells #[.slice p q i,.string f,.int .i64 c,.slice m o n] 25)).cell? ⟨w.heap.size,0,none⟩=some (.slice p q i):=by rw[World.cell?_alloc_mark];rfl
   have c1:(w.alloc (.cells #[.slice p q i,.string f,.int .i64 c,.slice m o n] 25)).cell? ⟨w.heap.size,1,none⟩=some (.string f):=by rw[World.cell?_alloc_mark];rfl
   have c2:(w.alloc (.cells #[.slice p q i,.string f,.int .i64 c,.slice m o n] 25)).cell? ⟨w.heap.size,2,none⟩=some (.int .i64 c):=by rw[World.cell?_alloc_mark];rfl
   have R:(w.alloc (.cells #[.slice p q i,.string f,.int .i64 c,.slice m o n] 25)).cell? ⟨w.heap.size,3,none⟩=some (.slice m o n):=by rw[World.cell?_alloc_mark];rfl
   have V:Hid (Below w.heap.size w (w.alloc (.cells #[.slice p q i,.string f,.int .i64 c,.slice m o n] 25))):=qb _ _;generalize w.alloc (.cells #[.slice p q i,.string f,.int .i64 c,.slice m o n] 25)=wq at c0 c1 c2 R V ⊢;generalize w.heap.size=gb at c0 c1 c2 R ⊢;go_wp2_with fail;refine(H1.out _ V.out).mono ?_;rintro e w1 ⟨rfl,g⟩;have c1:=qt g c1;have c2:=qt g c2;have R:=qt g R;have d:=hid (qd V.out g);clear g c0
   cases O
   ·have a:Hid (r=false):=b.out;clear b;go_wp2_with fail;go_ret;exact⟨by rw[a.out];rfl,d.out⟩
   ·cases P
    ·have a:Hid (r=false):=b.out;clear b;go_wp2_with(go_at_call 145;refine(B.out _).mono ?_;rintro e w2 ⟨rfl,rfl⟩)
     go_ret;exact⟨by rw[a.out];rfl,d.out⟩
    ·by_cases z:0<=c
     ·by_cases L:c<=9999
      ·have a:Hid (r=Q):=by have:=b.out;rwa [decide_eq_true z,decide_eq_true L]at this
       clear b;go_wp2_with(first | (go_at_call 145;refine(B.out _).mono ?_;rintro e w2 ⟨rfl,rfl⟩) | (go_at_call 146;refine(U.out _ d.out).mono ?_;rintro e w3 ⟨rfl,X⟩))
       go_ret;exact⟨by rw[a.out];rfl,qd d.out X⟩
      ·have a:Hid (r=false):=by have:=b.out;rwa [decide_eq_true z,decide_eq_false L]at this
       clear b;go_wp2_with(first | (go_at_call 145;refine(B.out _).mono ?_;rintro e w2 ⟨rfl,rfl⟩))
       go_ret;exact⟨by rw[a.out];rfl,d.out⟩
     ·have a:Hid (r=false):=by have:=b.out;rwa [decide_eq_false z]at this
      clear b;go_wp2_with(first | (go_at_call 145;refine(B.out _).mono ?_;rintro e w2 ⟨rfl,rfl⟩))
      go_ret;exact⟨by rw[a.out];rfl,d.out⟩
  ·have b:=hid (zj C.out (fun h=>t h.nr))
   have S:(100:Int)<(rs.length:Int):=by omega
   have H:¬(40:Int)<(ts.length:Int):=by omega
   generalize ts.length=q at *
   generalize rs.length=o at *
   clear N C j k l s H1 B U;go_enter Tryz.func131,Tryz.ntmps131;go_wp2_with fail;go_ret;exact⟨by rw[b.out];rfl,qb _ _⟩
 ·have b:=hid (zj C.out (fun h=>F h.nt))
  have H:(40:Int)<(ts.length:Int):=by omega
  generalize ts.length=q at *
  generalize rs.length=o at *
  clear N C j k l s H1 B U;go_enter Tryz.func131,Tryz.ntmps131;go_wp2_with fail;go_ret;exact⟨by rw[b.out];rfl,qb _ _⟩
theorem qbq{α:Type}{a b:List α}(f:a.length=b.length)(h:∀(i:Nat) (x y:α),a[i]?=some x->b[i]?=some y->x=y):a=b:=by
 apply List.ext_getElem f
 intro i c d;exact h i _ _ (List.getElem?_eq_getElem c) (List.getElem?_eq_getElem d)
theorem qlt(l m:List ByteArray)(M:Option Addr)(b A:Nat)(N:Option Addr)(d B:Nat)(w:World)(s:Row w 1 M b A (strC l))(t:Row w 1 N d B (strC m))(O:b=l.length)(P:d=m.length)(hn:b<=1000)(r:Bool)(R:r=true↔l=m):
  Calls Tryz.prog 222 #[.slice M b A,.slice N d B] w fun e U=>e=.returned (.bool r)/\Below w.heap.size w U:=by
 have f:=hid2 O P;have C:=hid R;have L:=hid2 s t
 have q1:b<=A/\A<=9223372036854775807:=by have:=s.le;have h:=s.max;unfold maxLen at h;omega
 have q2:d<=B/\B<=9223372036854775807:=by have:=t.le;have h:=t.max;unfold maxLen at h;omega
 clear O P R s t
 by_cases c:b=d
 ·have T:((b:Int) != (d:Int))=false:=by simp[c]
  go_enter Tryz.func222,Tryz.ntmps222;go_wp2
  go_loopg [13] b (fun kx s13 wr=>∃k:Nat,s13=.int .i64 k/\k<=b/\b - k<=kx/\Hid (Below w.heap.size w wr/\∀(i:Nat) (x y:ByteArray),i<k->l[i]?=some x->m[i]?=some y->x=y))
  case atStart=>exact⟨0,rfl,Nat.zero_le _,by omega,(⟨Below.refl _ _,fun i x y h=>absurd h (Nat.not_lt_zero _)⟩:Below w.heap.size w _/\∀(i:Nat) (x y:ByteArray),i<0->l[i]?=some x->m[i]?=some y->x=y)⟩
  case round =>
   obtain⟨k,rfl,hk,hg,J⟩:=hrel
   by_cases E:k<b
   ·obtain⟨x,p⟩:∃x,l[k]?=some x:=⟨l[k]'(by rw[<-f.out.1];exact E),List.getElem?_eq_getElem _⟩
    obtain⟨y,q⟩:∃y,m[k]?=some y:=⟨m[k]'(by rw[<-f.out.2];omega),List.getElem?_eq_getElem _⟩
    obtain⟨V,o1,rfl,c1⟩:=jy (L.out.1.below J.out.1) p;obtain⟨X,o2,rfl,c2⟩:=jy (L.out.2.below J.out.1) q;have D:=hid2 p q;clear p q
    have Q:k<d:=by omega
    go_upto_region 6 with fail
    have Y:=zi c1;have Z:=zi c2
    have K:Hid (∀n H,Below w.heap.size w (onto wr n H)):=fun n H=>qd J.out.1 (ke wr n H)
    by_cases a:x=y
    ·have S:=xv a
     have g:Hid (∀(i:Nat) (x y:ByteArray),i<k+1->l[i]?=some x->m[i]?=some y->x=y):=fun i u v hi F G=>by
      rcases Nat.lt_or_ge i k with h | h
      ·exact J.out.2 i u v h F G
      ·have:i=k:=by omega
       subst this;rw[D.out.1]at F;rw[D.out.2]at G
       cases F;cases G
       exact a
     clear a J;refine zn (by kernel_rfl) ?_
     repeat (go_big_quiet_step (fail))
     refine wpQuiet_nil ?_;intro _ o;obtain⟨⟨nq,I⟩,j⟩:=o;subst j;simp only;go_wp2_with fail;go_roundg (b - (k+1))
     case measure=>omega
     case rel=>exact⟨k+1,by simp,by omega,Nat.le_refl _,(⟨K.out _ _,g.out⟩:Below w.heap.size w _/\∀(i:Nat) (x y:ByteArray),i<k+1->l[i]?=some x->m[i]?=some y->x=y)⟩
    ·have S:=xu a;have g:Hid (r=false):=zj C.out (fun h=>by have z:=D.out;rw[h]at z;rw[z.1]at z;exact a (Option.some.inj z.2))
     clear a J;refine zn (by kernel_rfl) ?_
     repeat (go_big_quiet_step (fail))
     refine wpQuiet_nil ?_;intro _ o;obtain⟨⟨nq,I⟩,j⟩:=o;subst j;simp only;go_wp2_with fail;go_ret;exact⟨by rw[g.out];rfl,K.out _ _⟩
   ·have g:Hid (r=true):=xh C.out (qbq (by rw[<-f.out.1,<-f.out.2];exact c) (fun i x y p q=>J.out.2 i x y (by have:=(List.getElem?_eq_some_iff.1 p).1;rw[<-f.out.1]at this;omega) p q))
    go_wp2;go_ret;exact⟨by rw[g.out];rfl,J.out.1⟩
 ·have T:((b:Int) != (d:Int))=true:=by simp;omega
  have g:=hid (zj C.out (fun h=>c (by rw[f.out.1,f.out.2,h])));clear c;go_enter Tryz.func222,Tryz.ntmps222;go_wp2;go_ret;exact⟨by rw[g.out];rfl,Below.refl _ _⟩
theorem qnm:Tryz.prog.underlying 40=some (.struct (Tryz.prog.fieldsOf 40)):=by kernel_rfl
theorem qqh:Tryz.prog.stoodInHeld 40=false:=by kernel_rfl
theorem qot:Tryz.prog.eqGuardType Tryz.prog.depth 40=false:=by kernel_rfl
theorem qtr:(Tryz.prog.fieldsOf 40).toList=[ ⟨ "Name", 9,0,false, "", "", 0⟩,⟨ "Level", 3,1,false, "", "", 16⟩,⟨ "Assoc", 3,2,false, "", "", 24⟩]:=by kernel_rfl
theorem qfb(n m:ByteArray)(a b c d:Int)(W:World):(binOp .neq 40 (.agg #[.string n,.int .i64 a,.int .i64 b]) (.agg #[.string m,.int .i64 c,.int .i64 d])).run Tryz.prog W=.ok (.bool (!((n.toList == m.toList) && (a == c) && (b == d)))) W:=by
 rw[run_neq_struct,run_equalIn_agg _ _ _ _ _ qnm qqh,qtr];simp[go_sem,Tryz.underlying9,Tryz.underlying3]
 by_cases f:n.toList=m.toList
 ·by_cases g:a=c
  ·by_cases h:b=d
   ·simp[f,g,h]
   ·simp[f,g,h]
  ·simp[f,g]
 ·simp[f]
theorem qh6(n m:ByteArray)(a b c d:Int):((⟨n,a,b⟩:Tk)=⟨m,c,d⟩)↔((n.toList == m.toList)=true/\a=c/\b=d):=by
 rw[vi]
 constructor
 ·intro h;cases h;exact⟨rfl,rfl,rfl⟩
 ·rintro⟨rfl,rfl,rfl⟩;rfl
theorem qlu(l m:List Tk)(Y:Option Addr)(b H:Nat)(Z:Option Addr)(d I:Nat)(w:World)(p:Row w 3 Y b H (tokC l))(q:Row w 3 Z d I (tokC m))(e1:b=l.length)(e2:d=m.length)(hn:b<=1000)(r:Bool)(hp:r=true↔l=m):
  Calls Tryz.prog 207 #[.slice Y b H,.slice Z d I] w fun e w'=>e=.returned (.bool r)/\Below w.heap.size w w':=by
 have f:=hid2 e1 e2;have K:=hid hp;have X:=hid2 p q
 have q1:b<=H/\H<=9223372036854775807:=by have:=p.le;have h:=p.max;unfold maxLen at h;omega
 have q2:d<=I/\I<=9223372036854775807:=by have:=q.le;have h:=q.max;unfold maxLen at h;omega
 clear e1 e2 hp p q
 by_cases c:b=d
 ·have s:((b:Int) != (d:Int))=false:=by simp[c]
  go_enter Tryz.func207,Tryz.ntmps207;go_wp2
  go_loopg [13] b (fun kx s13 wr=>∃k:Nat,s13=.int .i64 k/\k<=b/\b - k<=kx/\Hid (Below w.heap.size w wr/\∀(i:Nat) (x y:Tk),i<k->l[i]?=some x->m[i]?=some y->x=y))
  case atStart=>exact⟨0,rfl,Nat.zero_le _,by omega,(⟨Below.refl _ _,fun i x y h=>absurd h (Nat.not_lt_zero _)⟩:Below w.heap.size w _/\∀(i:Nat) (x y:Tk),i<0->l[i]?=some x->m[i]?=some y->x=y)⟩
  case round =>
   obtain⟨k,rfl,hk,hg,J⟩:=hrel
   by_cases Q:k<b
   ·obtain⟨x,t⟩:∃x,l[k]?=some x:=⟨l[k]'(by rw[<-f.out.1];exact Q),List.getElem?_eq_getElem _⟩
    obtain⟨y,F⟩:∃y,m[k]?=some y:=⟨m[k]'(by rw[<-f.out.2];omega),List.getElem?_eq_getElem _⟩
    obtain⟨b1,o1,rfl,c1,M,O⟩:=jd (X.out.1.below J.out.1) t;obtain⟨b2,o2,rfl,c2,N,P⟩:=jd (X.out.2.below J.out.1) F;have L:=hid2 t F;clear t F
    have a0:k<d:=by omega
    obtain⟨B,A,z⟩:=x;obtain⟨E,D,C⟩:=y;simp only at c1 M O c2 N P
    go_upto_region 6 with fail
    have g1:=zi c1;have g2:=zi c2;have g3:=zi M;have g4:=zi N;have g5:=zi O;have g6:=zi P
    have a3:∀(W:World) (x y:Operand),(eqGuard .neq 40 x y (.agg #[.string B,.int .i64 A,.int .i64 z]) (.agg #[.string E,.int .i64 D,.int .i64 C])).run Tryz.prog W=.ok () W:=fun W x y=>run_eqGuard_agg W .neq 40 x y _ _ qot
    have V:Hid (∀n T,Below w.heap.size w (onto wr n T)):=fun n T=>qd J.out.1 (ke wr n T)
    clear c1 c2 M N O P
    by_cases a:(⟨B,A,z⟩:Tk)=⟨E,D,C⟩
    ·have e3:∀W:World,(binOp .neq 40 (.agg #[.string B,.int .i64 A,.int .i64 z]) (.agg #[.string E,.int .i64 D,.int .i64 C])).run Tryz.prog W=.ok (.bool false) W:=fun W=>by
      rw[qfb];obtain⟨p,q,h3⟩:=(qh6 _ _ _ _ _ _).1 a;rw[p,q,h3];simp
     have g:Hid (∀(i:Nat) (x y:Tk),i<k+1->l[i]?=some x->m[i]?=some y->x=y):=fun i u v hi R S=>by
      rcases Nat.lt_or_ge i k with h | h
      ·exact J.out.2 i u v h R S
      ·have:i=k:=by omega
       subst this;rw[L.out.1]at R;rw[L.out.2]at S
       cases R;cases S
       exact a
     clear a J;refine zn (by kernel_rfl) ?_
     repeat (go_big_quiet_step (fail))
     refine wpQuiet_nil ?_;intro _ o;obtain⟨⟨nq,U⟩,j⟩:=o;subst j;simp only;go_wp2_with fail;go_roundg (b - (k+1))
     case measure=>omega
     case rel=>exact⟨k+1,by simp,by omega,Nat.le_refl _,(⟨V.out _ _,g.out⟩:Below w.heap.size w _/\∀(i:Nat) (x y:Tk),i<k+1->l[i]?=some x->m[i]?=some y->x=y)⟩
    ·have e3:∀W:World,(binOp .neq 40 (.agg #[.string B,.int .i64 A,.int .i64 z]) (.agg #[.string E,.int .i64 D,.int .i64 C])).run Tryz.prog W=.ok (.bool true) W:=fun W=>by
      rw[qfb]
      have h0:((B.toList == E.toList) && (A == D) && (z == C))=false:=by
       cases s:((B.toList == E.toList) && (A == D) && (z == C))
       ·rfl
       ·rw[Bool.and_eq_true,Bool.and_eq_true]at s;exact absurd ((qh6 _ _ _ _ _ _).2 ⟨s.1.1,by simpa using s.1.2,by simpa using s.2⟩) a
      rw[h0];rfl
     have g:Hid (r=false):=zj K.out (fun h=>by have G:=L.out;rw[h]at G;rw[G.1]at G;exact a (Option.some.inj G.2))
     clear a J;refine zn (by kernel_rfl) ?_
     repeat (go_big_quiet_step (fail))
     refine wpQuiet_nil ?_;intro _ o;obtain⟨⟨nq,U⟩,j⟩:=o;subst j;simp only;go_wp2_with fail;go_ret;exact⟨by rw[g.out];rfl,V.out _ _⟩
   ·have g:Hid (r=true):=xh K.out (qbq (by rw[<-f.out.1,<-f.out.2];exact c) (fun i x y t F=>J.out.2 i x y (by have:=(List.getElem?_eq_some_iff.1 t).1;rw[<-f.out.1]at this;omega) t F))
    go_wp2;go_ret;exact⟨by rw[g.out];rfl,J.out.1⟩
 ·have s:((b:Int) != (d:Int))=true:=by simp;omega
  have g:=hid (zj K.out (fun h=>c (by rw[f.out.1,f.out.2,h])));clear c;go_enter Tryz.func207,Tryz.ntmps207;go_wp2;go_ret;exact⟨by rw[g.out];rfl,Below.refl _ _⟩
theorem qhk(x y:Ru)(s t:Option Addr)(b c:Nat)(w:World)(f:Row w 1 s x.r.length b (strC x.r))(g:Row w 1 t y.r.length c (strC y.r))(L:x.r.length<=100)(r:Bool)(E:r=true↔x=y):
  Calls Tryz.prog 209 #[.agg #[.string x.l,.slice s x.r.length b,.string x.p],.agg #[.string y.l,.slice t y.r.length c,.string y.p]] w fun e A=>e=.returned (.bool r)/\Below w.heap.size w A:=by
 obtain⟨G,i,H⟩:=x;obtain⟨I,j,J⟩:=y;simp only at f g L ⊢;obtain⟨q,z⟩:=zv (i=j)
 have K:Hid (∀W:World,Below w.heap.size w W->Calls Tryz.prog 222 #[.slice s i.length b,.slice t j.length c] W fun e A=>e=.returned (.bool q)/\Below W.heap.size W A):=fun W D=>qlt i j s _ b t _ c W (f.below D) (g.below D) rfl rfl (by omega) q z
 have a:Hid (r=((G.toList == I.toList) && (H.toList == J.toList) && q)):=by
  show _=_;rw[Bool.eq_iff_iff,E,Bool.and_eq_true,Bool.and_eq_true,vi,vi,z]
  constructor
  ·intro h;cases h;exact⟨⟨rfl,rfl⟩,rfl⟩
  ·rintro⟨⟨rfl,rfl⟩,rfl⟩;rfl
 have M:i.length<=b/\b<=9223372036854775807:=by have:=f.le;have h:=f.max;unfold maxLen at h;omega
 have N:j.length<=c/\c<=9223372036854775807:=by have:=g.le;have h:=g.max;unfold maxLen at h;omega
 have k:Hid (∀o F:Obj,Below w.heap.size w ((w.alloc o).alloc F)):=fun o F=>qd (qb _ _) (qb _ _)
 generalize i.length=n at *
 generalize j.length=m at *
 clear f g E z
 cases v:(G.toList == I.toList)
 ·have d:Hid (r=false):=by have:=a.out;rwa [v]at this
  clear a;go_enter Tryz.func209,Tryz.ntmps209;go_wp2_with fail;go_ret;exact⟨by rw[d.out];rfl,k.out _ _⟩
 ·cases B:(H.toList == J.toList)
  ·have d:Hid (r=false):=by have:=a.out;rwa [v,B]at this
   clear a;go_enter Tryz.func209,Tryz.ntmps209;go_wp2_with fail;go_ret;exact⟨by rw[d.out];rfl,k.out _ _⟩
  ·have d:Hid (r=q):=by have:=a.out;rwa [v,B]at this
   clear a;go_enter Tryz.func209,Tryz.ntmps209;go_wp2_with fail;refine(K.out _ (k.out _ _)).mono ?_;rintro e w1 ⟨rfl,C⟩;have u:=hid (qd (k.out _ _) C);clear C;go_wp2_with fail;go_ret;exact⟨by rw[d.out];rfl,u.out⟩
theorem qi4(l m:List Ru)(O:Option Addr)(a X:Nat)(P:Option Addr)(n Y:Nat)(w:World)(F:jm w O a X l)(G:jm w P n Y m)(Q:a=l.length)(R:n=m.length)(hn:a<=1000)(V:∀x∈l,x.r.length<=100)(r:Bool)(U:r=true↔l=m):
  Calls Tryz.prog 208 #[.slice O a X,.slice P n Y,.func (.func 209) #[] #[]] w fun e L=>e=.returned (.bool r)/\Below w.heap.size w L:=by
 have d:=hid2 Q R;have E:=hid U;have N:=hid2 F G;have HS:=hid V;have q1:=kv F;have q2:=kv G;clear Q R U F G V
 by_cases b:a=n
 ·have hb:((a:Int) != (n:Int))=false:=by simp[b]
  have g:=hid b;clear b;go_enter Tryz.func208,Tryz.ntmps208;go_wp2
  go_loopg [17] a (fun kx s17 wr=>∃k:Nat,s17=.int .i64 k/\k<=a/\a - k<=kx/\Hid (Below w.heap.size w wr/\∀(i:Nat) (x y:Ru),i<k->l[i]?=some x->m[i]?=some y->x=y))
  case atStart=>exact⟨0,rfl,Nat.zero_le _,by omega,(⟨Below.refl _ _,fun i x y h=>absurd h (Nat.not_lt_zero _)⟩:Below w.heap.size w _/\∀(i:Nat) (x y:Ru),i<0->l[i]?=some x->m[i]?=some y->x=y)⟩
  case round =>
   obtain⟨k,rfl,hk,hg,J⟩:=hrel
   by_cases j:k<a
   ·obtain⟨x,o⟩:∃x,l[k]?=some x:=⟨l[k]'(by rw[<-d.out.1];exact j),List.getElem?_eq_getElem _⟩
    obtain⟨y,A⟩:∃y,m[k]?=some y:=⟨m[k]'(by rw[<-d.out.2,<-g.out];exact j),List.getElem?_eq_getElem _⟩
    obtain⟨b1,o1,Z,xc,rfl,c1,d1,f1,t⟩:=(N.out.1.below J.out.1).at o;obtain⟨b2,o2,ya,yc,rfl,c2,d2,f2,z⟩:=(N.out.2.below J.out.1).at A;have C:=hid2 o A;obtain⟨q,H⟩:=zv (x=y)
    have B:Hid (∀W:World,Below wr.heap.size wr W->Calls Tryz.prog 209 #[.agg #[.string x.l,.slice Z x.r.length xc,.string x.p],.agg #[.string y.l,.slice ya y.r.length yc,.string y.p]] W fun e L=>e=.returned (.bool q)/\Below W.heap.size W L):=fun W S=>qhk x y Z ya xc yc W (t.below S) (z.below S) (HS.out x (List.mem_of_getElem? C.out.1)) q H
    have M:=hid H;clear o A t z H
    have T:k<n:=by rw[<-g.out];exact j
    have a0:=qp c2;have a3:=qp d2;have a4:=qp f2
    cases q
    ·have f:Hid (r=false):=zj E.out (fun h=>by
      have D:=C.out;rw[h]at D;rw[D.1]at D;have:=M.out.2 (Option.some.inj D.2)
      cases this)
     go_wp2_with fail;refine(B.out _ (qd (qb _ _) (qb _ _))).mono ?_;rintro e w1 ⟨rfl,s⟩;have c:=hid (qd (qd J.out.1 (qd (qb _ _) (qb _ _))) s);clear s B J;go_wp2_with fail;go_ret;exact⟨by rw[f.out];rfl,c.out⟩
    ·have f:Hid (∀(i:Nat) (x y:Ru),i<k+1->l[i]?=some x->m[i]?=some y->x=y):=fun i u v hi I K=>by
      rcases Nat.lt_or_ge i k with h | h
      ·exact J.out.2 i u v h I K
      ·have:i=k:=by omega
       subst this;rw[C.out.1]at I;rw[C.out.2]at K
       cases I;cases K
       exact M.out.1 rfl
     go_wp2_with fail;refine(B.out _ (qd (qb _ _) (qb _ _))).mono ?_;rintro e w1 ⟨rfl,s⟩;have c:=hid (qd (qd J.out.1 (qd (qb _ _) (qb _ _))) s);clear s B J;go_wp2_with fail;go_roundg (a - (k+1))
     case measure=>omega
     case rel=>exact⟨k+1,by simp,by omega,Nat.le_refl _,(⟨c.out,f.out⟩:Below w.heap.size w _/\∀(i:Nat) (x y:Ru),i<k+1->l[i]?=some x->m[i]?=some y->x=y)⟩
   ·have f:Hid (r=true):=xh E.out (qbq (by rw[<-d.out.1,<-d.out.2];exact g.out) (fun i x y o A=>J.out.2 i x y (by have:=(List.getElem?_eq_some_iff.1 o).1;rw[<-d.out.1]at this;omega) o A))
    go_wp2;go_ret;exact⟨by rw[f.out];rfl,J.out.1⟩
 ·have hb:((a:Int) != (n:Int))=true:=by simp;omega
  have f:=hid (zj E.out (fun h=>b (by rw[d.out.1,d.out.2,h])));clear b;go_enter Tryz.func208,Tryz.ntmps208;go_wp2;go_ret;exact⟨by rw[f.out];rfl,Below.refl _ _⟩
def qsf (F:Nat):Prop:=∀(G K:Gm) (h k:Hd) (w:World) (r:Bool),IsG w h G->IsG w k K->(r=true↔G=K)->Calls Tryz.prog F #[gv h G,gv k K] w fun e w'=>e=.returned (.bool r)/\Below w.heap.size w w'
theorem qj6:qsf 183:=by
 intro G K h k w r a y V;obtain⟨ts,z,u,rs⟩:=G;obtain⟨B,c,n,p⟩:=h;obtain⟨us,A,v,M⟩:=K;obtain⟨C,d,q,s⟩:=k
 have Z:ts.length<=c/\c<=9223372036854775807:=by have Q:=a.tok.le;have D:=a.tok.max;simp only at Q D;unfold maxLen at D;omega
 have a0:us.length<=d/\d<=9223372036854775807:=by have Q:=y.tok.le;have D:=y.tok.max;simp only at Q D;unfold maxLen at D;omega
 have R:=kv a.rul;have S:=kv y.rul;simp only at R S;have a1:ts.length<=100:=a.small.nt;have a2:rs.length<=200:=a.small.nr;unfold gv;simp only;obtain⟨F,l⟩:=zv (ts=us);obtain⟨H,m⟩:=zv (rs=M)
 have H1:Hid (∀W:World,Below w.heap.size w W->Calls Tryz.prog 207 #[.slice B ts.length c,.slice C us.length d] W fun e T=>e=.returned (.bool F)/\Below W.heap.size W T):=fun W E=>qlu ts us B _ c C _ d W (a.tok.below E) (y.tok.below E) rfl rfl (by simp only;omega) F l
 have Y:Hid (∀W:World,Below w.heap.size w W->Calls Tryz.prog 208 #[.slice n rs.length p,.slice q M.length s,.func (.func 209) #[] #[]] W fun e T=>e=.returned (.bool H)/\Below W.heap.size W T):=fun W E=>qi4 rs M n _ p q _ s W (a.rul.below E) (y.rul.below E) rfl rfl (by simp only;omega) (fun x hx=>(a.small.rl x hx).2.2.1) H m
 have t:Hid (r=((z.toList == A.toList) && (u == v) && F && H)):=by
  show _=_;rw[Bool.eq_iff_iff,V,Bool.and_eq_true,Bool.and_eq_true,Bool.and_eq_true,vi,l,m,beq_iff_eq]
  constructor
  ·intro h;cases h;exact⟨⟨⟨rfl,rfl⟩,rfl⟩,rfl⟩
  ·rintro⟨⟨⟨rfl,rfl⟩,rfl⟩,rfl⟩;rfl
 have L:Hid (∀o X:Obj,Below w.heap.size w ((w.alloc o).alloc X)):=fun o X=>qd (qb _ _) (qb _ _)
 clear a y V l m
 generalize ts.length=N at *
 generalize us.length=un at *
 generalize rs.length=I at *
 generalize M.length=J at *
 cases P:(z.toList == A.toList)
 ·have b:Hid (r=false):=by have:=t.out;rwa [P]at this
  clear t;go_enter Tryz.func183,Tryz.ntmps183;go_wp2_with fail;go_ret;exact⟨by rw[b.out];rfl,L.out _ _⟩
 ·cases U:(u == v)
  ·have b:Hid (r=false):=by have:=t.out;rwa [P,U]at this
   clear t;go_enter Tryz.func183,Tryz.ntmps183;go_wp2_with fail;go_ret;exact⟨by rw[b.out];rfl,L.out _ _⟩
  ·have b:Hid (r=(F && H)):=by have:=t.out;rwa [P,U]at this
   clear t;go_enter Tryz.func183,Tryz.ntmps183
   go_upto_region 1 with fail
   have c0:((w.alloc (.cells #[.slice B N c,.string z,.int .i64 u,.slice n I p] 25)).alloc (.cells #[.slice C un d,.string A,.int .i64 v,.slice q J s] 25)).cell? ⟨w.heap.size,3,none⟩=some (.slice n I p):=qp (by rw[World.cell?_alloc_mark];rfl) _
   have c1:((w.alloc (.cells #[.slice B N c,.string z,.int .i64 u,.slice n I p] 25)).alloc (.cells #[.slice C un d,.string A,.int .i64 v,.slice q J s] 25)).cell? ⟨w.heap.size+1,3,none⟩=some (.slice q J s):=by
    have:=World.cell?_alloc_mark (w.alloc (.cells #[.slice B N c,.string z,.int .i64 u,.slice n I p] 25)) #[.slice C un d,.string A,.int .i64 v,.slice q J s] 25 (0,0) 3;rw[qz]at this;rw[this];rfl
   have g:Hid (Below w.heap.size w ((w.alloc (.cells #[.slice B N c,.string z,.int .i64 u,.slice n I p] 25)).alloc (.cells #[.slice C un d,.string A,.int .i64 v,.slice q J s] 25))):=L.out _ _;go_wp2_with fail;refine(H1.out _ g.out).mono ?_;rintro e w1 ⟨rfl,j⟩;have c0:=qt j c0;have c1:=qt j c1;have f:=hid (qd g.out j);clear j g L
   cases F
   ·have i:Hid (r=false):=b.out;clear b;go_wp2_with fail;go_ret;exact⟨by rw[i.out];rfl,f.out⟩
   ·have i:Hid (r=H):=b.out;clear b;go_wp2_with fail;refine(Y.out _ f.out).mono ?_;rintro e w2 ⟨rfl,j⟩;have O:=hid (qd f.out j);clear j;go_wp2_with fail;go_ret;exact⟨by rw[i.out];rfl,O.out⟩
theorem Tryz.size217:(Tryz.prog.info? 217).map (·.size)=some 2:=by kernel_rfl
theorem Tryz.lies217:liesAt Tryz.prog Tryz.prog.depth 217 (2 / Tryz.prog.cellsOf 217) 0 217 1=true:=by kernel_rfl
theorem qal(b:Nat)(v:Value)(l:List UInt8)(w:World)(h:Bld w b v l):
  Calls Tryz.prog 229 #[.pointer (some ⟨b,0,none⟩)] w fun e k=>e=.returned (.tuple #[])/\k.heap[b]?=some (.cells #[.pointer (some ⟨b,0,none⟩),v] 217 (0,0))/\Bld k b v l/\zr w b v k v:=by
 obtain⟨j,f,g⟩:=Option.map_eq_some_iff.1 Tryz.size217;obtain⟨p,a,rfl | rfl⟩:=h.head
 ·have n:w.cell? ⟨b,0,none⟩=some (.pointer none):=by rw[qe a];rfl
  have c:w.shape? b=some (217,2):=by simp[World.shape?,a]
  have o:=qj a 0
  have d:Hid ((w.setCell ⟨b,0,none⟩ (.pointer (some ⟨b,0,none⟩))).heap[b]?=some (.cells #[.pointer (some ⟨b,0,none⟩),v] 217 (0,0))/\Bld (w.setCell ⟨b,0,none⟩ (.pointer (some ⟨b,0,none⟩))) b v l/\zr w b v (w.setCell ⟨b,0,none⟩ (.pointer (some ⟨b,0,none⟩))) v):=by
   have m:(w.setCell ⟨b,0,none⟩ (.pointer (some ⟨b,0,none⟩))).heap[b]?=some (.cells #[.pointer (some ⟨b,0,none⟩),v] 217 (0,0)):=by simp[World.setCell,Array.getElem?_modify,a]
   refine⟨m,⟨⟨_,m,.inr rfl⟩,qh h.own (fun i q=>Below.heap_setCell _ _ _ _ (fun e=>by subst e;exact h.apart q)),h.apart⟩,⟨(Kept.refl _ _).setCell _ _ (fun _=>.inl rfl),fun _ h=>.inl h⟩⟩
  clear a h;go_enter Tryz.func229,Tryz.ntmps229;go_wp2;rw[Lib.run_to_unsafe w ⟨b,0,none⟩ Tryz.underlying215 Tryz.underlying251 f (by rw[g];decide) c (Nat.zero_lt_succ 1)]
  simp only[Result.andThen];rw[Oper.upon_value];go_wp2;rw[run_callFunc_extern Tryz.func238 (by kernel_rfl) (by kernel_rfl) (by kernel_rfl) (e:=Extern.AbiNoEscape.same) (by kernel_rfl)];rw[Lib.run_noEscape];simp only[Result.andThen];rw[Oper.upon_value];go_wp2;rw[Lib.run_from_unsafe w ⟨b,0,none⟩ Tryz.underlying251 Tryz.underlying215 f c Tryz.lies217];simp only[Result.andThen];rw[Oper.upon_value];go_wp2;go_end0;exact⟨rfl,d.out⟩
 ·have n:w.cell? ⟨b,0,none⟩=some (.pointer (some ⟨b,0,none⟩)):=by rw[qe a];rfl
  have d:=hid2 a h;clear a h;go_enter Tryz.func229,Tryz.ntmps229;go_wp2;rw[Lib.run_neq_ptr_same w _ Tryz.underlying215 f];go_wp2;go_end0;exact⟨rfl,d.out.1,d.out.2,zr.refl _ _ _⟩
theorem qeg{w:World}{b:Nat}{o a:Obj}(h:w.heap[b]?=some o):(w.alloc a).heap[b]?=some o:=by
 rw[Below.heap_alloc _ _ _ (Array.getElem?_eq_some_iff.1 h).1];exact h
theorem qhl{w w1 w2:World}{b:Nat}{v v':Value}{l l':List UInt8}(m:w1.heap[b]?=some (.cells #[.pointer (some ⟨b,0,none⟩),v] 217 (0,0)))(h:Bld w1 b v l)(o:zr w b v w1 v)(a:w2.ownsRow 0 5 1 v' l'.length (Lib.byteCells l'))(n:Kept (fun k=>v.ownBlock=some k) w1 w2)(q:∀k,v'.ownBlock=some k->v.ownBlock=some k\/w1.heap.size<=k):
  Bld (w2.setCell ⟨b,1,none⟩ v') b v' l'/\zr w b v (w2.setCell ⟨b,1,none⟩ v') v':=by
 have g:=(Array.getElem?_eq_some_iff.1 m).1
 have j:w2.heap[b]?=some (.cells #[.pointer (some ⟨b,0,none⟩),v] 217 (0,0)):=by rw[n.block b g h.apart];exact m
 have c:=Lib.ownBlock_ne a j (by decide)
 have p:(w2.setCell ⟨b,1,none⟩ v').heap[b]?=some (.cells #[.pointer (some ⟨b,0,none⟩),v'] 217 (0,0)):=by simp[World.setCell,Array.getElem?_modify,j]
 refine⟨⟨⟨_,p,.inr rfl⟩,qh a (fun i d=>Below.heap_setCell _ _ _ _ (fun e=>by subst e;exact c d)),c⟩,?_,fun k f=>?_⟩
 ·exact(o.1.trans n (fun i _ d=>.inr d)).setCell _ _ (fun _=>.inl rfl)
 ·rcases q k f with h1 | h1
  ·exact .inl h1
  ·exact .inr (Nat.le_trans o.1.size h1)
theorem qbl(b:Nat)(v:Value)(l:List UInt8)(s:ByteArray)(w:World)(h:Bld w b v l)(G:l.length+s.size<=100000000):
  Calls Tryz.prog 218 #[.pointer (some ⟨b,0,none⟩),.string s] w fun e C=>∃v',e=.returned (.tuple #[.int .i64 s.size,.nilIface])/\Bld C b v' (l++by8 s)/\zr w b v C v':=by
 obtain⟨I,F,q,r,t⟩:=info_parts Tryz.info5;have u:=hid (qal b v l w h);clear h;go_enter Tryz.func218,Tryz.ntmps218;go_wp2_with fail;refine u.out.mono ?_;rintro e w1 ⟨rfl,i,g,A⟩;obtain⟨v',w2,H,d,m,z⟩:=qfs (P:=Tryz.prog) w1 38 9 38 5 I Tryz.underlying38 Tryz.underlying9 F q r t v l.length (Lib.byteCells l) g.own s G;have y:=qhl (l':=l++by8 s) i g A (by rw[Lib.byteCells_append,List.length_append,zf];exact d) m z
 have o:=(Array.getElem?_eq_some_iff.1 i).1
 have k:w2.heap[b]?=some (.cells #[.pointer (some ⟨b,0,none⟩),v] 217 (0,0)):=by rw[m.block b o g.apart];exact i
 obtain⟨x,B,f,p⟩:∃a n c,v=.slice a n c:=by obtain⟨a,c,e,-⟩:=zo g.own;exact⟨a,_,c,e⟩
 obtain⟨J,M,E,j⟩:∃a n c,v'=.slice a n c:=by obtain⟨a,c,e,-⟩:=zo d;exact⟨a,_,c,e⟩
 subst p j
 have N:w1.cell? ⟨b,1,none⟩=some (.slice x B f):=by rw[qe i];rfl
 have K:w2.cell? ⟨b,1,none⟩=some (.slice x B f):=by rw[qe k];rfl
 have L:=qj k 1;have D:=hid y;clear y d m z i g A k u;go_wp2_with(at_builtin;refine Lib.wpList_append_run _ rfl _ _ _ _ rfl _ _ rfl rfl _ _ H ?_)
 go_ret2;exact⟨_,rfl,D.out⟩
theorem qgn(b:Nat)(v:Value)(l:List UInt8)(c:UInt8)(w:World)(h:Bld w b v l)(V:l.length+1<=100000000):
  Calls Tryz.prog 220 #[.pointer (some ⟨b,0,none⟩),.int .u8 c.toNat] w fun e J=>∃v',e=.returned .nilIface/\Bld J b v' (l++[c])/\zr w b v J v':=by
 obtain⟨R,N,A,B,C⟩:=info_parts Tryz.info5;have D:=hid (qal b v l w h);clear h
 obtain⟨x,z⟩:∃x:Int,x=c.toNat:=⟨_,rfl⟩
 have L:=hid z;rw[<-z];clear z;go_enter Tryz.func220,Tryz.ntmps220;go_wp2_with fail;refine D.out.mono ?_;rintro e w1 ⟨rfl,p,i,t⟩
 obtain⟨v',w2,Q,d,s,G⟩:=qai (P:=Tryz.prog) (w1.alloc (.cells #[.int .u8 x] 5)) 38 38 5 R _ 1 1 Tryz.underlying38 N A B C rfl (by decide) v l.length (Lib.byteCells l) (World.ownsRow.alloc i.own _) ⟨w1.heap.size,0,none⟩ 1 1 [.int .u8 x] rfl
  (fun j u q=>by
   match j,q with
   | 0,q=>simp at q;subst q;simp[Addr.add])
  (fun u H=>by simp at H;subst H;rfl) (by unfold maxLen;omega) (by omega)
 have O:=(Array.getElem?_eq_some_iff.1 p).1;have f:(w1.alloc (.cells #[.int .u8 x] 5)).heap[b]?=some (.cells #[.pointer (some ⟨b,0,none⟩),v] 217 (0,0)):=qeg p;have k:Bld (w1.alloc (.cells #[.int .u8 x] 5)) b v l:=i.below ((Below.refl _ _).alloc (Nat.le_refl _) _)
 have m:zr w b v (w1.alloc (.cells #[.int .u8 x] 5)) v:=⟨t.1.alloc _,t.2⟩
 have F:=qhl (l':=l++[c]) f k m (by rw[Lib.byteCells_append,List.length_append];have e:Lib.byteCells [c]=[.int .u8 x]:=(by rw[L.out];rfl);rw[e];exact d) s G
 have r:w2.heap[b]?=some (.cells #[.pointer (some ⟨b,0,none⟩),v] 217 (0,0)):=by rw[s.block b (by simp;omega) i.apart];exact f
 obtain⟨E,I,g,y⟩:∃a n c,v=.slice a n c:=by obtain⟨a,c,e,-⟩:=zo i.own;exact⟨a,_,c,e⟩
 obtain⟨S,X,M,o⟩:∃a n c,v'=.slice a n c:=by obtain⟨a,c,e,-⟩:=zo d;exact⟨a,_,c,e⟩
 subst y o
 have Y:w1.cell? ⟨b,1,none⟩=some (.slice E I g):=by rw[qe p];rfl
 have T:w2.cell? ⟨b,1,none⟩=some (.slice E I g):=by rw[qe r];rfl
 have U:=qj r 1;have K:=hid F;clear F d s G p i t r D f k m;go_wp2_with(at_builtin;refine Lib.wpList_append_run _ rfl _ _ _ _ rfl _ _ rfl rfl _ _ Q ?_)
 go_ret;exact⟨_,rfl,K.out⟩
theorem qd2(b:Nat)(v:Value)(l:List UInt8)(w:World)(h:Bld w b v l)(u:l≠[])(I:l.length<=100000000):
  Calls Tryz.prog 205 #[.pointer (some ⟨b,0,none⟩)] w fun e H=>e=.returned (.string ⟨l.toArray⟩)/\Kept (Foot b v) w H:=by
 have t:l.length≠0:=by simpa using u
 obtain⟨p,A,-⟩:=h.head;have d:=h.own
 obtain⟨g,a,c,rfl,-,y,F,m,q,f⟩:∃g a c,v=.slice (some ⟨g,0,none⟩) l.length a/\0<=g/\w.heap[g]?=some (.cells c 5 (0,0))/\l.length<=a/\a<=maxLen/\c.size=a * 1/\c.toList.take (l.length * 1)=Lib.byteCells l:=by
  rcases d.2 with ⟨_,hz⟩ | ⟨g,a,c,hv,r⟩
  ·exact absurd hz t
  ·exact⟨g,a,c,hv,r⟩
 have o:Tryz.prog.cellsOf 5=1:=by kernel_rfl
 have c1:w.drew.cell? ⟨b,1,none⟩=some (.slice (some ⟨g,0,none⟩) l.length a):=by
  have:w.drew.heap[b]?=some (.cells #[.pointer p,.slice (some ⟨g,0,none⟩) l.length a] 217 (0,0)):=A;rw[qe this];rfl
 have C:(Builtin.unsafeSliceData_ #[38] 227 #[.slice (some ⟨g,0,none⟩) l.length a]).run Tryz.prog w.drew=.ok (.pointer (some ⟨g,0,none⟩)) w.drew:=Lib.run_unsafeSliceData_row _ _ _ _ _ _ (by omega)
 have D:(Builtin.unsafeString_ #[227,3] 9 #[.pointer (some ⟨g,0,none⟩),.int .i64 l.length]).run Tryz.prog w.drew=.ok (.string ⟨l.toArray⟩) (w.drew.freeze ⟨g,0,none⟩ l.length):=by
  refine Lib.run_unsafeString_row w.drew 227 3 9 5 Tryz.underlying227 o g c.size (by have s:w.drew.heap[g]?=some (.cells c 5 (0,0)):=y;simp[World.shape?,s]) l u (by omega) (by omega) ?_
  intro j x G;exact d.cells (g:=g) rfl j (.int .u8 x.toNat) (by simp[Lib.byteCells,G])
 have B:Hid (Kept (Foot b (.slice (some ⟨g,0,none⟩) l.length a)) w (w.drew.freeze ⟨g,0,none⟩ l.length)):=by
  refine(Kept.refl _ w).drew.trans (T:=fun k=>k=g) ?_ (fun i _ e=>.inr (by subst e;rfl))
  unfold World.freeze
  split
  ·exact Kept.refl _ _
  ·exact⟨rfl,rfl,rfl,by simp,fun k _ E=>by
    simp only[Array.getElem?_modify]
    rw[if_neg (fun e=>E e.symm)]⟩
 have J:=qaf
 generalize z:l.length=n at *
 clear d A y f q m h;go_enter Tryz.func205,Tryz.ntmps205;go_wp2;go_region
 all_goals (go_wp2;go_ret;exact⟨rfl,B.out⟩)
theorem qou(w:World)(b j:Nat)(u:Value)(o:Obj)(d:b<w.heap.size):((w.setCell ⟨b,j,none⟩ u).alloc o).heap=((w.alloc o).setCell ⟨b,j,none⟩ u).heap:=by
 have e:(w.setCell ⟨b,j,none⟩ u).heap.size=w.heap.size:=by simp[World.setCell]
 apply Array.ext_getElem?
 intro i
 rcases Nat.lt_trichotomy i w.heap.size with h | h | h
 ·rw[Below.heap_alloc _ _ _ (by omega)]
  by_cases a:i=b
  ·subst a;simp only[World.setCell,Array.getElem?_modify,if_pos];rw[Below.heap_alloc _ _ _ d]
  ·rw[Below.heap_setCell _ _ _ _ a,Below.heap_setCell _ _ _ _ a,Below.heap_alloc _ _ _ h]
 ·rw[Below.heap_setCell _ _ _ _ (by simp only;omega)]
  subst h;have c:=heap_alloc_new (w.setCell ⟨b,j,none⟩ u) o;rw[e]at c;rw[c,heap_alloc_new w o]
 ·rw[Array.getElem?_eq_none (by simp;omega),Array.getElem?_eq_none (by simp[World.setCell];omega)]
theorem qj7(b n:Nat)(w:World)(a:w.heap[b]?=some (.cells #[.pointer (some ⟨b,0,none⟩),.slice none 0 0] 217 (0,0)))(L:n<=100000000):
  Calls Tryz.prog 239 #[.pointer (some ⟨b,0,none⟩),.int .i64 n] w fun e v=>∃v',e=.returned (.tuple #[])/\Bld v b v' []/\zr w b (.slice none 0 0) v v':=by
 obtain⟨cs,d,I,c⟩:=Lib.run_makeNoZero (P:=Tryz.prog) w.drew #[3] 38 5 Tryz.underlying38 n (by omega)
 have u:IntKind.i64.wrap (IntKind.i64.wrap 0+(n:Int))=n:=by
  rw[IntKind.wrap_i64,IntKind.wrap_i64];omega
 have m:(callFunc 246 #[.int .i64 (IntKind.i64.wrap (IntKind.i64.wrap 0+(n:Int)))]).run Tryz.prog w.drew=.ok (.value (.slice (some ⟨w.drew.heap.size,0,none⟩) n cs.size)) (w.drew.drew.drew.alloc (.cells cs 5)):=by
  rw[u,run_callFunc_extern Tryz.func246 (by kernel_rfl) (by kernel_rfl) (by kernel_rfl) (e:=Extern.BytealgMakeNoZero.makeNoZero #[3] #[38]) (by kernel_rfl),d];rfl
 have s:=(Array.getElem?_eq_some_iff.1 a).1
 have c1:w.drew.cell? ⟨b,1,none⟩=some (.slice none 0 0):=by
  have:w.drew.heap[b]?=_:=a;rw[qe this];rfl
 have f:(w.alloc (.cells cs 5)).heap[b]?=some (.cells #[.pointer (some ⟨b,0,none⟩),.slice none 0 0] 217 (0,0)):=qeg a
 have c2:(w.alloc (.cells cs 5)).cell? ⟨b,1,none⟩=some (.slice none 0 0):=by rw[qe f];rfl
 have K:=qj f 1
 have j:(Tryz.prog.info? 5).map (·.size)=some 1:=by kernel_rfl
 have o:∀W:World,(Builtin.copy_ #[38,38] 3 #[.slice (some ⟨w.heap.size,0,none⟩) 0 cs.size,.slice none 0 0]).run Tryz.prog W=.ok (goInt 0) W :=
  fun W=>run_copy_none W 38 38 3 5 _ _ 0 cs.size 0 0 Tryz.underlying38 j rfl
 have J:=c (by unfold maxLen;omega)
 have x:Hid (∀q:World,q.heap=((w.setCell ⟨b,1,none⟩ (.slice (some ⟨w.heap.size,0,none⟩) 0 cs.size)).alloc (.cells cs 5)).heap->q.os=w.os->q.tape=w.tape->q.output=w.output->Bld q b (.slice (some ⟨w.heap.size,0,none⟩) 0 cs.size) []/\zr w b (.slice none 0 0) q (.slice (some ⟨w.heap.size,0,none⟩) 0 cs.size)):=by
  intro q g y z A;rw[qou w b 1 _ _ s]at g
  have h:(w.alloc (.cells cs 5)).ownsRow 0 5 1 (.slice (some ⟨w.heap.size,0,none⟩) 0 cs.size) ([]:List UInt8).length (Lib.byteCells []) :=
   ⟨rfl,.inr ⟨w.heap.size,cs.size,cs,rfl,Nat.zero_le _,heap_alloc_new w _,Nat.zero_le _,J,by simp,rfl⟩⟩
  have l:Bld w b (.slice none 0 0) []:=⟨⟨_,a,.inr rfl⟩,World.ownsRow_nil _ _ _ _,by simp[Value.ownBlock]⟩
  have G:=qhl (w:=w) (w1:=w) (w2:=w.alloc (.cells cs 5)) (v':=.slice (some ⟨w.heap.size,0,none⟩) 0 cs.size) (l':=[]) a l (zr.refl _ _ _) h ((Kept.refl _ _).alloc _)
   (fun k r=>by simp[Value.ownBlock]at r;exact .inr (by omega))
  obtain⟨⟨⟨p,B,C⟩,D,E⟩,⟨t,F⟩⟩:=G;exact⟨⟨⟨p,by rw[g];exact B,C⟩,qh D (fun i _=>by rw[g]),E⟩,⟨y,z,A,by rw[g];exact t.size,fun k r H=>by rw[g];exact t.block k r H⟩,F⟩
 have M:=qaf;clear u a f c d j;go_enter Tryz.func239,Tryz.ntmps239;go_wp2;go_region
 all_goals (go_wp2;go_end0;exact⟨_,rfl,x.out _ rfl rfl rfl rfl⟩)
theorem qnn(b n:Nat)(w:World)(h:Bld w b (.slice none 0 0) [])(q:n<=100000000):
  Calls Tryz.prog 230 #[.pointer (some ⟨b,0,none⟩),.int .i64 n] w fun e a=>∃v',e=.returned (.tuple #[])/\Bld a b v' []/\zr w b (.slice none 0 0) a v':=by
 have f:=hid (qal b _ [] w h);clear h;go_enter Tryz.func230,Tryz.ntmps230;go_wp2_with fail;refine f.out.mono ?_;rintro e w1 ⟨rfl,d,g,k⟩
 have c1:w1.cell? ⟨b,1,none⟩=some (.slice none 0 0):=by rw[qe d];rfl
 have o:Hid (∀m,Calls Tryz.prog 239 #[.pointer (some ⟨b,0,none⟩),.int .i64 n] (w1.drewN m) fun e a=>∃v',e=.returned (.tuple #[])/\Bld a b v' []/\zr (w1.drewN m) b (.slice none 0 0) a v'):=fun m=>qj7 b n (w1.drewN m) d q
 have c:=hid2 k g;have s:=qaf;clear d g k f
 by_cases r:0<n
 ·have p:(0:Int)<(n:Int):=by omega
  go_upto_region 3 with fail
  go_quiet (fail);go_wp2_with fail;refine(o.out _).mono ?_;rintro e w2 ⟨v',rfl,i,j⟩;have l:=hid2 i (c.out.1.trans (zr.trans ⟨(Kept.refl _ _).drewN _,fun _ h=>.inl h⟩ j));clear i j;go_wp2_with fail;go_end0;exact⟨v',rfl,l.out⟩
 ·obtain rfl:n=0:=by omega
  go_upto_region 3 with fail
  go_quiet (fail);go_wp2_with fail;go_end0;exact⟨_,rfl,c.out.2.below (qa2 (Below.refl _ _) _),c.out.1.1.drewN _,c.out.1.2⟩
def sp (l:List (List UInt8)):List UInt8:=l.flatMap fun x=>32 :: x
def jn:List (List UInt8)->List UInt8
 | []=>[]
 | x :: r=>x++sp r
theorem qov(a b:List (List UInt8)):sp (a++b)=sp a++sp b:=by unfold sp;rw[List.flatMap_append]
theorem qts(x:List UInt8):sp [x]=32 :: x:=by unfold sp;simp
theorem qj8{l:List (List UInt8)}{k:Nat}{x:List UInt8}(h:l[k]?=some x):sp (l.take (k+1))=sp (l.take k)++32 :: x:=by
 rw[zw h,qov,qts]
theorem qcj(l:List (List UInt8))(h:∀x∈l,x.length<=100):(sp l).length<=101 * l.length:=by
 induction l with
 | nil=>simp[sp]
 | cons x r ih =>
  have b:=ih (fun y a=>h y (List.mem_cons_of_mem _ a));have c:=h x List.mem_cons_self;have e:sp (x :: r)=(32 :: x)++sp r:=rfl;rw[e,List.length_append,List.length_cons,List.length_cons];omega
def NewB (w wr:World) (b:Nat) (l:List UInt8):Prop:=∃v,Bld wr b v l/\Below w.heap.size w wr/\∀k,Foot b v k->w.heap.size<=k
theorem NewB.step{w wr a:World}{b:Nat}{l':List UInt8}{v v':Value}(c:Below w.heap.size w wr)(d:∀k,Foot b v k->w.heap.size<=k)(g:Bld a b v' l')(f:zr wr b v a v'):NewB w a b l':=by
 refine⟨v',g,c.trans (f.below c.size d),?_⟩;rintro k (rfl | h)
 ·exact d k (.inl rfl)
 ·rcases f.2 k h with h1 | h1
  ·exact d k (.inr h1)
  ·exact Nat.le_trans c.size h1
theorem qam(b:Nat)(l:List UInt8)(s:ByteArray)(w W:World)(h:NewB w W b l)(j:l.length+s.size<=100000000):
  Calls Tryz.prog 218 #[.pointer (some ⟨b,0,none⟩),.string s] W fun e a=>e=.returned (.tuple #[.int .i64 s.size,.nilIface])/\NewB w a b (l++by8 s):=by
 obtain⟨v,c,d,f⟩:=h;refine(qbl b v l s W c j).mono ?_;rintro e a ⟨v',rfl,g,i⟩;exact⟨rfl,NewB.step d f g i⟩
def qtt (w wr:World) (b:Nat):Prop:=Bld wr b (.slice none 0 0) []/\Below w.heap.size w wr/\∀k,Foot b (.slice none 0 0) k->w.heap.size<=k
theorem qeh(w wr:World)(h:Below w.heap.size w wr):qtt w (wr.alloc (.cells #[.pointer none,.slice none 0 0] 217)) wr.heap.size :=
 ⟨⟨⟨none,heap_alloc_new _ _,.inl rfl⟩,World.ownsRow_nil _ _ _ _,by simp[Value.ownBlock]⟩,qd h (qb _ _),fun k a=>by
  rcases a with rfl | a
  ·exact h.size
  ·simp[Value.ownBlock]at a⟩
theorem qno(l:List ByteArray)(ao:Option Addr)(n E:Nat)(w:World)(hr:Row w 1 ao n E (strC l))(hn:n=l.length)(h1:1<=n)(a6:n<=1000)(hs:∀x∈l,x.size<=100):
  Calls Tryz.prog 219 #[.slice ao n E,.string ⟨#[32]⟩] w fun e p=>∃t,e=.returned (.string t)/\by8 t=jn (l.map by8)/\Below w.heap.size w p:=by
 have Y:=hid hn;have HR:=hid hr;have M:=hid hs;have a4:=hr.le
 have a5:E<=9223372036854775807:=by have:=hr.max;unfold maxLen at this;omega
 clear hr hn hs
 by_cases A:n=1
 ·subst A
  obtain⟨x,rfl⟩:∃x,l=[x]:=by
   match l,Y.out with
   | [x],_=>exact⟨x,rfl⟩
  obtain⟨b,o,rfl,c0⟩:=jy HR.out (i:=0) (s:=x) rfl;rw[Nat.add_zero]at c0;go_enter Tryz.func219,Tryz.ntmps219;go_wp2;go_ret;exact⟨x,rfl,by simp[jn,sp],Below.refl _ _⟩
 ·have h2:2<=n:=by omega
  obtain⟨x,r,D⟩:∃x r,Hid (l=x :: r):=by
   match l,Y.out with
   | x :: r,_=>exact⟨x,r,rfl⟩
   | [],h=>exact absurd h (by simp;omega)
  obtain⟨b,o,rfl,c⟩:=HR.out.at (by omega)
  have HC:Hid (∀(W:World),Below w.heap.size w W->∀(i:Nat) (s:ByteArray),l[i]?=some s->W.cell? ⟨b,o+i,none⟩=some (.string s)):=fun W hW i s hi=>qt hW (c i _ (by unfold strC;rw[List.getElem?_map,hi];rfl))
  have e0:((n:Int) == 0)=false:=by simp;omega
  have e1:((n:Int) == 1)=false:=by simp;omega
  have e2:¬(9223372036854775807 / ((n:Int) - 1)<=1):=by
   have h3:2<=9223372036854775807 / ((n:Int) - 1):=(Int.le_ediv_iff_mul_le (by omega)).2 (by omega);omega
  clear c HR A;go_enter Tryz.func219,Tryz.ntmps219
  go_upto_block 1 with fail
  go_cut [5] (fun s5 wd=>∃T:Nat,s5=.int .i64 T/\T<=200000/\wd=w)
  case first =>
   go_wp2_with fail
   go_loop [5,41] (fun s5 s41=>∃T k:Nat,s5=.int .i64 T/\s41=.int .i64 k/\k<=n/\T<=1000+100 * k) (fun _ s41=>n - (intOf s41).toNat)
   case atStart=>exact⟨n - 1,0,by congr 1;omega,rfl,Nat.zero_le _,by omega⟩
   case round =>
    obtain⟨T,k,rfl,rfl,Z,hT⟩:=hrel
    by_cases F:k<n
    ·obtain⟨y,G⟩:∃y,l[k]?=some y:=⟨l[k]'(by rw[<-Y.out];exact F),List.getElem?_eq_getElem _⟩
     have c0:=HC.out w (Below.refl _ _) k y G;have a3:=M.out y (List.mem_of_getElem? G);clear G;go_wp2_with fail
     go_round
     case rel=>exact⟨T+y.size,k+1,by simp,by simp,by omega,by omega⟩
     case measure=>simp[intOf];omega
    ·go_wp2_with fail;go_meet;exact⟨T,rfl,by omega,rfl⟩
  case rest =>
   obtain⟨T,rfl,hT,a8⟩:=hcut;subst wc;have d:=hid (qeh w w (Below.refl _ _))
   go_upto_region 19 with fail
   generalize w.alloc (.cells #[.pointer none,.slice none 0 0] 217)=w1 at d ⊢
   obtain⟨a,X⟩:∃a,a=w.heap.size:=⟨_,rfl⟩
   rw[<-X]at d ⊢;clear X;have HG:=hid (qnn a T w1 d.out.1 (by omega));go_wp2_with fail;refine HG.out.mono ?_;rintro e w2 ⟨v2,rfl,P,U⟩;have B:=hid (NewB.step d.out.2.1 d.out.2.2 P U)
   have O:Hid (Below w.heap.size w w2):=by obtain⟨v,-,h,-⟩:=B.out;exact h
   have c0:=HC.out w2 O.out 0 x (by rw[D.out];rfl)
   rw[Nat.add_zero]at c0;have a7:=M.out x (by rw[D.out];exact List.mem_cons_self)
   have f:=hid (qam a [] x w w2 B.out (by simp;omega))
   clear HG P U d;go_wp2_with fail;refine f.out.mono ?_;rintro e w3 ⟨rfl,Q⟩
   have C:Hid (NewB w w3 a (by8 x++sp ((r.map by8).take 0))):=by
    show NewB _ _ _ _
    simpa [sp] using Q
   clear f Q B O c0
   have u:Hid (r.length=n - 1):=by have:=Y.out;rw[D.out,List.length_cons]at this;show _=_;omega
   go_upto_block 3 with fail
   go_cut [65] (fun s65 wd=>Hid (NewB w wd a (by8 x++sp (r.map by8))))
   case first =>
    go_wp2_with fail
    go_loopg [65] n (fun kx s65 wr=>∃k:Nat,s65=.int .i64 k/\k<=n - 1/\n - 1 - k<=kx/\Hid (NewB w wr a (by8 x++sp ((r.map by8).take k))))
    case atStart=>exact⟨0,rfl,Nat.zero_le _,by omega,C⟩
    case round =>
     obtain⟨k,rfl,Z,hg,J⟩:=hrel;clear C
     by_cases F:k<n - 1
     ·obtain⟨y,G⟩:∃y,r[k]?=some y:=⟨r[k]'(by rw[u.out];exact F),List.getElem?_eq_getElem _⟩
      have H:l[k+1]?=some y:=by rw[D.out];exact G
      have a2:Hid (Below w.heap.size w wr):=by obtain⟨v,-,h,-⟩:=J.out;exact h
      have a3:=M.out y (List.mem_of_getElem? H)
      have m:Hid ((by8 x++sp ((r.map by8).take k)).length<=200000):=by
       show _<=_
       have h1:=qcj ((r.map by8).take k) (fun z hz=>by
        have:=List.mem_of_mem_take hz;rw[List.mem_map]at this;obtain⟨q,I,rfl⟩:=this;rw[zf]
        exact M.out q (by rw[D.out];exact List.mem_cons_of_mem _ I))
       rw[List.length_append,zf]
       have h2:((r.map by8).take k).length<=k:=by rw[List.length_take];omega
       have h3:101 * ((r.map by8).take k).length<=101 * k:=Nat.mul_le_mul_left _ h2;omega
      have c0:=HC.out wr a2.out (k+1) y H
      have c1:wr.cell? ⟨b,o+1+k,none⟩=some (.string y):=by rw[show o+1+k=o+(k+1) by omega];exact c0
      have f:Hid (Calls Tryz.prog 218 #[.pointer (some ⟨a,0,none⟩),.string ⟨#[32]⟩] wr fun e p=>e=.returned (.tuple #[.int .i64 1,.nilIface])/\NewB w p a ((by8 x++sp ((r.map by8).take k))++[32])):=qam a _ ⟨#[32]⟩ w wr J.out (by have:=m.out;have e:(⟨#[32]⟩:ByteArray).size=1:=rfl;omega)
      have HE:Hid ((by8 x++sp ((r.map by8).take k))++[32]++by8 y=by8 x++sp ((r.map by8).take (k+1))):=by
       show _=_;rw[qj8 (x:=by8 y) (by rw[List.getElem?_map,G];rfl)]
       simp
      have L:Hid (∀W,NewB w W a ((by8 x++sp ((r.map by8).take k))++[32])->Calls Tryz.prog 218 #[.pointer (some ⟨a,0,none⟩),.string y] W fun e p=>e=.returned (.tuple #[.int .i64 y.size,.nilIface])/\NewB w p a (by8 x++sp ((r.map by8).take (k+1)))):=fun W hW=>by
       have:=qam a _ y w W hW (by have:=m.out;rw[List.length_append];simp only[List.length_cons,List.length_nil];omega)
       rwa [HE.out]at this
      clear G H c0 m HE J;go_wp2_with fail;refine f.out.mono ?_;rintro e w4 ⟨rfl,R⟩;have K:=hid R;clear R;go_wp2_with fail;refine(L.out _ K.out).mono ?_;rintro e w5 ⟨rfl,S⟩;have a0:=hid S;clear S K f L;go_wp2_with fail;go_roundg (n - 1 - (k+1))
      case measure=>omega
      case rel=>exact⟨k+1,by simp,by omega,Nat.le_refl _,a0⟩
     ·have HF:Hid (NewB w wr a (by8 x++sp (r.map by8))):=by
       have:=J.out
       rwa [List.take_of_length_le (by rw[List.length_map,u.out];omega)]at this
      go_wp2_with fail;go_meet;exact HF
   case rest =>
    clear C;obtain⟨v,hB,g,j⟩:=hcut.out
    have V:by8 x++sp (r.map by8)≠[]:=by
     match r,u.out with
     | [],h=>exact absurd h (by simp;omega)
     | y :: r',_=>intro h;have:=congrArg List.length h;rw[List.length_append]at this;simp[sp]at this
    have N:Hid (Calls Tryz.prog 205 #[.pointer (some ⟨a,0,none⟩)] wc fun e p=>e=.returned (.string ⟨(by8 x++sp (r.map by8)).toArray⟩)/\Kept (Foot a v) wc p):=qd2 a v _ wc hB V (by
     have h1:=qcj (r.map by8) (fun z hz=>by
      rw[List.mem_map]at hz;obtain⟨q,I,rfl⟩:=hz;rw[zf]
      exact M.out q (by rw[D.out];exact List.mem_cons_of_mem _ I))
     rw[List.length_append,zf];rw[List.length_map,u.out]at h1
     omega)
    have HK:Hid (∀p,Kept (Foot a v) wc p->Below w.heap.size w p):=fun p Z=>g.trans (Z.below g.size (fun k Z hf=>by have:=j k hf;omega))
    clear hB g j V;go_wp2_with fail;refine N.out.mono ?_;rintro e w6 ⟨rfl,hK⟩;have a1:=hid (HK.out _ hK);clear hK N;generalize I:(by8 x++sp (r.map by8)).toArray=q;have HQ:=hid I;clear I;go_wp2_with fail;go_ret;exact⟨_,rfl,by rw[<-HQ.out,D.out];rfl,a1.out⟩
def qbr (l:List (List UInt8)):List UInt8:=jn l++[10]
theorem qi5(l:List ByteArray)(p:Option Addr)(n c b:Nat)(v:Value)(a:List UInt8)(w:World)(F:Row w 1 p n c (strC l))(j:n=l.length)(M:1<=n)(u:n<=1000)(d:∀x∈l,x.size<=100)(E:Bld w b v a)(O:a.length<=50000000):
  Calls Tryz.prog 202 #[.pointer (some ⟨b,0,none⟩),.slice p n c] w fun e k=>∃v',e=.returned (.tuple #[])/\Bld k b v' (a++qbr (l.map by8))/\zr w b v k v':=by
 have C:=hid (qno l p n c w F j M u d);have J:=hid E
 have m:Hid ((jn (l.map by8)).length<=200000):=by
  show _<=_
  match l,j,d with
  | [],_,_=>simp[jn]
  | x :: r,j,d =>
   have N:=qcj (r.map by8) (fun z G=>by
    rw[List.mem_map]at G;obtain⟨q,P,rfl⟩:=G;rw[zf]
    exact d q (List.mem_cons_of_mem _ P))
   have R:=d x List.mem_cons_self;rw[List.map_cons];unfold jn;rw[List.length_append,zf];rw[List.length_map]at N;rw[List.length_cons]at j;omega
 clear F j d E;go_enter Tryz.func202,Tryz.ntmps202;go_wp2_with fail;refine C.out.mono ?_;rintro e w1 ⟨t,rfl,y,s⟩
 have Q:t.size<=200000:=by rw[<-zf,y];exact m.out
 have H1:=hid (qbl b v a t w1 (J.out.below s) (by omega));have L:=hid y;have D:Hid (zr w b v w1 v):=zr.of_below s;clear y s C;go_wp2_with fail;refine H1.out.mono ?_;rintro e w2 ⟨H,rfl,f,h⟩;have B:Hid (Calls Tryz.prog 220 #[.pointer (some ⟨b,0,none⟩),.int .u8 10] w2 fun e k=>∃v',e=.returned .nilIface/\Bld k b v' (a++by8 t++[10])/\zr w2 b H k v'):=qgn b H (a++by8 t) 10 w2 f (by rw[List.length_append,zf];omega)
 have o:=hid (D.out.trans h);clear f h H1 D;go_wp2_with fail;refine B.out.mono ?_;rintro e I ⟨A,rfl,g,i⟩
 have K:Hid (Bld I b A (a++qbr (l.map by8))/\zr w b v I A):=⟨by unfold qbr;rw[<-L.out,<-List.append_assoc];exact g,o.out.trans i⟩
 clear g i B;go_wp2_with fail;go_end0;exact⟨A,rfl,K.out⟩
def Pow (w:World):Prop:=∀i:Nat,i<20->w.cell? ⟨3,i,none⟩=some (.int .u64 ((10 ^ i:Nat):Int))
theorem Pow.below{w a:World}(h:Pow w)(b:Below w.heap.size w a):Pow a:=fun i c=>qt b (h i c)
theorem Tryz.info9:(Tryz.prog.info? 9).map (fun i=>(i.zero,i.size,i.bytes))=some (some (.string ⟨#[]⟩),1,16):=by kernel_rfl
def tx (L:List (List (List UInt8))):List UInt8:=L.flatMap qbr
def OkL (L:List (List (List UInt8))):Prop:=∀ws∈L,ws.length<=1000/\∀x∈ws,x.length<=100
theorem qei(a b:List (List (List UInt8))):tx (a++b)=tx a++tx b:=by unfold tx;rw[List.flatMap_append]
theorem qtu(x:List (List UInt8)):tx [x]=qbr x:=by unfold tx;simp
theorem qj9{a:List (List UInt8)}(h:a.length<=1000)(b:∀x∈a,x.length<=100):(qbr a).length<=102000:=by
 unfold qbr
 cases a with
 | nil=>simp[jn]
 | cons x r =>
  have d:=qcj r (fun y c=>b y (List.mem_cons_of_mem _ c));have f:=b x List.mem_cons_self;unfold jn;rw[List.length_append,List.length_append];rw[List.length_cons]at h;simp only[List.length_cons,List.length_nil];omega
theorem qh7{L:List (List (List UInt8))}(h:OkL L):(tx L).length<=102000 * L.length:=by
 induction L with
 | nil=>simp[tx]
 | cons x r ih =>
  have c:=ih (fun y b=>h y (List.mem_cons_of_mem _ b));have a:=h x List.mem_cons_self;have d:=qj9 a.1 a.2;have e:tx (x :: r)=qbr x++tx r:=rfl;rw[e,List.length_append,List.length_cons];omega
theorem OkL.snoc{L:List (List (List UInt8))}{a:List (List UInt8)}(h:OkL L)(b:a.length<=1000)(c:∀x∈a,x.length<=100):OkL (L++[a]):=fun y d=>by
 rcases List.mem_append.1 d with h3 | h3
 ·exact h y h3
 ·rw[List.mem_singleton]at h3;subst h3;exact⟨b,c⟩
theorem qck(l:List ByteArray)(d:Option Addr)(n a b:Nat)(v:Value)(L:List (List (List UInt8)))(w:World)(q:Row w 1 d n a (strC l))(h:n=l.length)(k:1<=n)(c:n<=1000)(i:∀x∈l,x.size<=100)(p:Bld w b v (tx L))(g:OkL L)(s:L.length<=400):
  Calls Tryz.prog 202 #[.pointer (some ⟨b,0,none⟩),.slice d n a] w fun e f=>∃v',e=.returned (.tuple #[])/\Bld f b v' (tx (L++[l.map by8]))/\OkL (L++[l.map by8])/\zr w b v f v':=by
 refine(qi5 l d n a b v (tx L) w q h k c i p (by have:=qh7 g;omega)).mono ?_
 rintro e f ⟨v',rfl,m,o⟩;refine⟨v',rfl,by rw[qei,qtu];exact m,g.snoc (by rw[List.length_map,<-h];exact c) (fun x j=>?_),o⟩
 rw[List.mem_map]at j;obtain⟨y,r,rfl⟩:=j;rw[zf];exact i y r
theorem qlv(a b:List ByteArray):strC (a++b)=strC a++strC b:=by unfold strC;rw[List.map_append]
theorem yw(a:List ByteArray):(strC a).length=a.length:=by unfold strC;rw[List.length_map]
theorem qqi(l:List ByteArray):∀u∈strC l,u.oneCell'=true:=by
 intro u a;unfold strC at a;rw[List.mem_map]at a;obtain⟨s,-,rfl⟩:=a;rfl
def OwnS (w:World) (base:Nat) (v:Value) (l:List ByteArray):Prop:=w.ownsRow base 9 1 v l.length (strC l)
theorem OwnS.addRow{w:World}{a:Nat}{v:Value}{l d:List ByteArray}{B:Option Addr}{m y:Nat}(h:OwnS w a v l)(H:Row w 1 B m y (strC d))(E:a<=w.heap.size)(J:l.length+d.length<=100000)(G:m=d.length):
  ∃f n c i,(Builtin.append_ #[27,27] 27 #[v,.slice B m y]).run Tryz.prog w=.ok (.slice f n c) i/\n=(l++d).length/\OwnS i a (.slice f n c) (l++d)/\Below a w i:=by
 obtain⟨A,z,s,t,x⟩:=info_parts Tryz.info9
 rcases H.lies with ⟨rfl,h0,h0c⟩ | ⟨b,o,rfl,hc⟩
 ·have r:d=[]:=List.eq_nil_of_length_eq_zero (by omega);subst r h0 h0c;have p:=run_append_owned_none (P:=Tryz.prog) (w:=w) a 27 27 9 A 1 Tryz.underlying27 z v l.length (strC l) h;obtain⟨f,c,rfl,-⟩:=zo h;exact⟨f,l.length,c,w,p,by simp,by rw[List.append_nil];exact h,Below.refl _ _⟩
 ·subst G
  obtain⟨v',i,q,C,D,-⟩:=run_append_own (P:=Tryz.prog) w a 27 27 9 A _ 1 16 Tryz.underlying27 z s t x rfl (by decide) v l.length (strC l) h ⟨b,o,none⟩ d.length y (strC d) (by rw[yw,Nat.mul_one])
   (fun j u I=>by rw[Addr.add_lit];exact hc j u I) (qqi d) (by unfold maxLen;omega) (by omega) E
  have k:OwnS i a v' (l++d):=by unfold OwnS;rw[qlv,List.length_append];exact C
  obtain⟨f,c,rfl,-⟩:=zo k;exact⟨f,_,c,i,q,rfl,k,(Below.refl a w).grown D (by omega) (fun g F=>(World.ownsRow.lt h g F).1)⟩
theorem OwnS.row{w:World}{a n:Nat}{b:Option Addr}{c:Nat}{l:List ByteArray}(h:OwnS w a (.slice b n c) l)(d:n=l.length):Row w 1 b n c (strC l):=by subst d;exact Row.of_own h
theorem OwnS.below{w b:World}{a:Nat}{v:Value}{l:List ByteArray}(h:OwnS w a v l)(c:Below w.heap.size w b):OwnS b a v l :=
 qh h (fun i d=>c.block i (World.ownsRow.lt h i d).2)
theorem qaw(w:World)(l:List ByteArray)(h:l.length<=1000):Row (w.alloc (.cells (strC l).toArray 9)) 1 (some ⟨w.heap.size,0,none⟩) l.length l.length (strC l):=by
 refine⟨by rw[yw,Nat.mul_one],Nat.le_refl _,by unfold maxLen;omega,.inr ⟨_,_,rfl,fun j u a=>?_⟩⟩
 rw[World.cell?_alloc_mark,Nat.zero_add,List.getElem?_toArray];exact a
theorem qhm(w:World)(l:List ByteArray)(h:l.length<=1000):OwnS (w.alloc (.cells (strC l).toArray 9)) w.heap.size (.slice (some ⟨w.heap.size,0,none⟩) l.length l.length) l:=by
 refine⟨by rw[yw,Nat.mul_one],.inr ⟨w.heap.size,l.length,(strC l).toArray,rfl,Nat.le_refl _,heap_alloc_new _ _,Nat.le_refl _,by unfold maxLen;omega,by simp[yw],?_⟩⟩
 rw[List.toList_toArray,List.take_of_length_le (by rw[yw];omega)]
def keyA (a:Int):ByteArray:=if a=1 then ⟨#[37,108,101,102,116]⟩ else if a=2 then ⟨#[37,114,105,103,104,116]⟩ else ⟨#[37,110,111,110,97,115,115,111,99]⟩
theorem qow(a:Int):(keyA a).size<=100:=by
 unfold keyA
 split
 ·exact(by decide:(⟨#[37,108,101,102,116]⟩:ByteArray).size<=100)
 ·split
  ·exact(by decide:(⟨#[37,114,105,103,104,116]⟩:ByteArray).size<=100)
  ·exact(by decide:(⟨#[37,110,111,110,97,115,115,111,99]⟩:ByteArray).size<=100)
theorem qhn(a:Int)(w:World):Calls Tryz.prog 228 #[.int .i64 a] w fun e f=>e=.returned (.string (keyA a))/\f=w:=by
 by_cases b:a=1
 ·subst b;go_enter Tryz.func228,Tryz.ntmps228;go_wp2;go_ret;exact⟨rfl,rfl⟩
 ·by_cases c:a=2
  ·subst c;go_enter Tryz.func228,Tryz.ntmps228;go_wp2;go_ret;exact⟨rfl,rfl⟩
  ·have g:(a == 1)=false:=by simpa using b
   have h:(a == 2)=false:=by simpa using c
   have d:Hid (keyA a=⟨#[37,110,111,110,97,115,115,111,99]⟩):=by show _=_;unfold keyA;rw[if_neg b,if_neg c]
   go_enter Tryz.func228,Tryz.ntmps228;go_wp2;go_ret;exact⟨by rw[d.out];rfl,rfl⟩
def kj (ts:List Tk) (k:Int):List ByteArray:=(ts.filter fun t=>t.l == k).map (·.n)
theorem qka(ts:List Tk)(t:Tk)(k:Int):kj (ts++[t]) k=kj ts k++(if t.l == k then [t.n] else []):=by
 unfold kj;rw[List.filter_append,List.map_append]
 congr 1
 cases h:(t.l == k) <;> simp[h]
theorem qc1(ts:List Tk)(k:Int):(kj ts k).length<=ts.length:=by
 unfold kj;rw[List.length_map];exact List.length_filter_le _ _
theorem qgo(ts:List Tk)(V:Option Addr)(n q:Nat)(k a:Int)(w:World)(r:Row w 3 V n q (tokC ts))(Z:n=ts.length)(a4:n<=100):
  Calls Tryz.prog 217 #[.slice V n q,.int .i64 k,.int .i64 a] w fun e M=>∃xa m xc,e=.returned (.slice xa m xc)/\m=(keyA a :: kj ts k).length/\Row M 1 xa m xc (strC (keyA a :: kj ts k))/\Below w.heap.size w M:=by
 have N:=hid Z;have HR:=hid r;have a0:=r.le
 have a3:q<=9223372036854775807:=by have:=r.max;unfold maxLen at this;omega
 have U:Hid (∀W:World,Calls Tryz.prog 228 #[.int .i64 a] W fun e M=>e=.returned (.string (keyA a))/\M=W):=fun W=>qhn a W
 have C:Hid (OwnS (w.alloc (.cells #[.string (keyA a)] 9)) w.heap.size (.slice (some ⟨w.heap.size,0,none⟩) 1 1) [keyA a]/\Below w.heap.size w (w.alloc (.cells #[.string (keyA a)] 9))):=⟨qhm w [keyA a] (by simp),qb _ _⟩
 generalize keyA a=s at U C ⊢;clear r Z;go_enter Tryz.func217,Tryz.ntmps217;go_wp2_with fail;refine(U.out _).mono ?_;rintro e w9 ⟨rfl,a5⟩;subst w9
 go_upto_region 2 with fail
 generalize T:w.alloc (.cells #[.string s] 9)=w1 at C ⊢;clear T;go_wp2
 go_loopg [7,15] n (fun kx s7 s15 wr=>∃(i:Nat) (u:Option Addr × Nat × Nat),s7=.slice u.1 u.2.1 u.2.2/\s15=.int .i64 i/\i<=n/\n - i<=kx/\Hid (∃l:List ByteArray,l=s :: kj (ts.take i) k/\u.2.1=l.length/\OwnS wr w.heap.size (.slice u.1 u.2.1 u.2.2) l/\Below w.heap.size w wr))
 case atStart=>exact⟨0,(some ⟨w.heap.size,0,none⟩,1,1),rfl,rfl,Nat.zero_le _,by omega,(⟨[s],rfl,rfl,C.out.1,C.out.2⟩:∃l:List ByteArray,l=s :: kj (ts.take 0) k/\1=l.length/\OwnS w1 w.heap.size (.slice (some ⟨w.heap.size,0,none⟩) 1 1) l/\Below w.heap.size w w1)⟩
 case round =>
  obtain⟨i,⟨z,p,A⟩,rfl,rfl,hi,hg,J⟩:=hrel;simp only at J;obtain⟨l,E,g,d,c⟩:=J.out;have x:=hid4 E g d c
  have a1:l.length<=101:=by
   rw[E,List.length_cons];have:=qc1 (ts.take i) k;rw[List.length_take,<-N.out]at this;omega
  clear J C
  by_cases Q:i<n
  ·obtain⟨t,S⟩:∃t,ts[i]?=some t:=⟨ts[i]'(by rw[<-N.out];exact Q),List.getElem?_eq_getElem _⟩
   obtain⟨b,o,rfl,c0,c1,c2⟩:=jd (HR.out.below c) S
   have I:Hid (kj (ts.take (i+1)) k=kj (ts.take i) k++(if t.l == k then [t.n] else [])):=by show _=_;rw[zw S,qka]
   obtain⟨f,j,H⟩:=t;simp only at c0 c1 c2;clear S;clear E g
   go_upto_region 5 with fail
   have y:Hid (OwnS (wr.alloc (.cells #[.string f,.int .i64 j,.int .i64 H] 40)) w.heap.size (.slice z p A) l/\Below w.heap.size w (wr.alloc (.cells #[.string f,.int .i64 j,.int .i64 H] 40))):=⟨d.below (qb _ _),qd c (qb _ _)⟩
   have X:(wr.alloc (.cells #[.string f,.int .i64 j,.int .i64 H] 40)).cell? ⟨wr.heap.size,0,none⟩=some (.string f):=by rw[World.cell?_alloc_mark];rfl
   have Y:(wr.alloc (.cells #[.string f,.int .i64 j,.int .i64 H] 40)).cell? ⟨wr.heap.size,1,none⟩=some (.int .i64 j):=by rw[World.cell?_alloc_mark];rfl
   generalize wr.alloc (.cells #[.string f,.int .i64 j,.int .i64 H] 40)=v at y X Y ⊢;generalize wr.heap.size=tb at X Y ⊢;clear c0 c1 c2 d c
   by_cases h:j=k
   ·have P:(j == k)=true:=by simpa using h
    have hA:=(y.out.1.below (qb v (.cells #[.string f] 9))).addRow (qaw v [f] (by simp)) (by have:=y.out.2.size;simp;omega) (by simp;omega) rfl
    obtain⟨O,L,c2,w2,r,F,G,D⟩:=hA;have R:(Builtin.append_ #[27,27] 27 #[.slice z p A,.slice (some ⟨v.heap.size,0,none⟩) 1 1]).run Tryz.prog (v.alloc (.cells #[.string f] 9))=.ok (.slice O L c2) w2:=r
    have B:Hid (∃l:List ByteArray,l=s :: kj (ts.take (i+1)) k/\L=l.length/\OwnS w2 w.heap.size (.slice O L c2) l/\Below w.heap.size w w2):=by
     refine⟨l++[f],?_,F,G,?_⟩
     ·have e:kj (ts.take (i+1)) k=kj (ts.take i) k++[f]:=by rw[I.out];simp[P]
      rw[e,x.out.1];rfl
     ·have K:Below w.heap.size w (v.alloc (.cells #[.string f] 9)):=qd y.out.2 (qb _ _);exact K.trans D
    clear r F G D I x h;go_wp2_with(at_builtin;refine Lib.wpList_append_run _ rfl _ _ _ _ rfl _ _ rfl rfl _ _ R ?_)
    go_roundg (n - (i+1))
    case measure=>omega
    case rel=>exact⟨i+1,(O,L,c2),rfl,by simp,by omega,Nat.le_refl _,B⟩
   ·have P:(j == k)=false:=by simpa using h
    have B:Hid (∃l:List ByteArray,l=s :: kj (ts.take (i+1)) k/\p=l.length/\OwnS v w.heap.size (.slice z p A) l/\Below w.heap.size w v):=by
     refine⟨l,?_,x.out.2.1,y.out.1,y.out.2⟩
     have e:kj (ts.take (i+1)) k=kj (ts.take i) k:=by rw[I.out];simp[P]
     rw[e];exact x.out.1
    clear I x h;go_wp2_with fail;go_roundg (n - (i+1))
    case measure=>omega
    case rel=>exact⟨i+1,(z,p,A),rfl,by simp,by omega,Nat.le_refl _,B⟩
  ·obtain rfl:i=n:=by omega
   have B:Hid (l=s :: kj ts k/\p=l.length/\Row wr 1 z p A (strC l)/\Below w.heap.size w wr):=by
    refine⟨?_,g,d.row g,c⟩;rw[E,N.out,List.take_length]
   clear x E g d c;go_wp2_with fail;go_ret;obtain⟨K,h2,h3,h4⟩:=B.out;exact⟨z,p,A,rfl,by rw[h2,K,List.length_cons],by rw[<-K];exact h3,h4⟩
end Go.Proofs.YtbdogaaooeoccaaGreatDoor
