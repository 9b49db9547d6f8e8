/- Texts that the proofs of the Auto statements stand on, part Prf10. -/
import Derived.Test.YtbdogaaooeoccaaGreatDoorPrf09
set_option maxHeartbeats 16000000
set_option maxRecDepth 100000
namespace Go.Proofs.YtbdogaaooeoccaaGreatDoor
open Go.RowKit
theorem Of0.drop{G:Gm}{S:Sp}(a:Of0 G S):S.nm.drop (S.tk+1)=lfs G.rs:=by
 rw[a.nm,a.tk];unfold nmG
 have e:tkG G++e0 :: lfs G.rs=(tkG G++[e0])++lfs G.rs:=by simp
 rw[e,List.drop_append_of_le_length (by unfold tkG;simp),List.drop_of_length_le (by unfold tkG;simp)]
 rfl
theorem Of0.take{G:Gm}{S:Sp}(a:Of0 G S):S.nm.take S.tk=tkG G:=by
 rw[a.nm,a.tk];unfold nmG;rw[List.take_append_of_le_length (by unfold tkG;simp),List.take_of_length_le (by unfold tkG;simp)]
theorem Of0.len{G:Gm}{S:Sp}(a:Of0 G S):S.nm.length - (S.tk+1)=(lfs G.rs).length:=by
 rw[a.nm,a.tk,jt];omega
theorem qig{G:Gm}{S:Sp}(a:Of0 G S)(h:SHd)(V:World)(g:Row V 1 h.na S.nm.length h.nc (strC S.nm))(m:Nat)(f:(lfs G.rs).length=m):Calls Tryz.prog 148 #[.agg (sC h S)] V fun e d=>∃b c,e=.returned (.slice b m c)/\Row d 1 b m c (strC (lfs G.rs))/\Below V.heap.size V d:=by
 have:=qet h S V g (by rw[a.nm,a.tk,jt];omega)
 rw[a.len,a.drop,f]at this;exact this
theorem qnx{G:Gm}{S:Sp}(a:Of0 G S)(h:SHd)(V:World)(c:Row V 1 h.na S.nm.length h.nc (strC S.nm)):Calls Tryz.prog 152 #[.agg (sC h S)] V fun e b=>e=.returned (.slice h.na S.tk h.nc)/\Row b 1 h.na S.tk h.nc (strC (tkG G))/\Below V.heap.size V b:=by
 have:=qes h S V c (by rw[a.nm,a.tk,jt];omega)
 rw[a.take]at this;exact this
theorem qkm(G:Gm)(S:Sp)(u:Of0 G S)(v:G.rs.length<=200)(h:SHd)(V:World)(k:Nat)(p:V.heap[k]?=some (.cells (sC h S) 31 (0,0)))(o:Row V 1 h.na S.nm.length h.nc (strC S.nm))(x:ByteArray)(b:Bool)(n:b=true↔x∈lfs G.rs):
  Calls Tryz.prog 153 #[.string x,.pointer (some ⟨k,0,none⟩)] V fun e i=>e=.returned (.bool b)/\Below V.heap.size V i:=by
 obtain⟨m,f⟩:∃m,(lfs G.rs).length=m:=⟨_,rfl⟩
 have t:m<=200:=by have:=vu G.rs;omega
 have j:=hid (qig u h V o m f)
 have r:Hid (∀(U:World) (d:Option Addr) (c:Nat),Row U 1 d m c (strC (lfs G.rs))->Calls Tryz.prog 147 #[.slice d m c,.string x] U fun e i=>e=.returned (.bool b)/\i=U):=fun U d c s=>by
  have:=yy (lfs G.rs) d c x U (by rw[f];exact s) (by rw[f];omega) b n
  rw[f]at this;exact this
 obtain⟨c0,c1,c2,A,B,C,D,E⟩:=sbox p;unfold sC at j;clear p o n f;go_enter Tryz.func153,Tryz.ntmps153;go_wp2_with fail;refine j.out.mono ?_;rintro e y ⟨d,c,rfl,a,l⟩;have q:=hid l;have g:=hid a;clear l a;go_wp2_with fail;refine(r.out _ _ _ g.out).mono ?_;rintro e z ⟨rfl,rfl⟩;go_wp2_with fail;go_ret;exact⟨rfl,q.out⟩
theorem qf2(G:Gm)(S:Sp)(M:Of0 G S)(D:G.rs.length<=200)(h:SHd)(w:World)(p:Nat)(a:w.heap[p]?=some (.cells (sC h S) 31 (0,0)))(N:Row w 1 h.na S.nm.length h.nc (strC S.nm))(l:List ByteArray)(K:Option Addr)(g:Nat)(u:Row w 1 K l.length g (strC l))(v:l.length<=1000):
  Calls Tryz.prog 163 #[.slice K l.length g,.func (.func 153) #[] #[.pointer (some ⟨p,0,none⟩)]] w fun e E=>∃z:Int,e=.returned (.int .i64 z)/\(0<=z↔∃x∈l,x∈lfs G.rs)/\Below w.heap.size w E:=by
 have A:=zk u
 have F:Hid (∀(V:World) (x:ByteArray) (b:Bool),Below w.heap.size w V->(b=true↔x∈lfs G.rs)->Calls Tryz.prog 153 #[.string x,.pointer (some ⟨p,0,none⟩)] V fun e E=>e=.returned (.bool b)/\Below V.heap.size V E):=fun V x b L P=>qkm G S M D h V p (qf L a) (N.below L) x b P
 have H:=hid u;clear u a N M
 obtain⟨n,r⟩:∃n,Hid (l.length=n):=⟨_,rfl⟩
 rw[r.out]at A v H ⊢;go_enter Tryz.func163,Tryz.ntmps163;go_wp2_with fail
 go_loopg [8] n (fun kx s8 wr=>∃k:Nat,s8=.int .i64 k/\k<=n/\n - k<=kx/\Hid (Below w.heap.size w wr/\∀(i:Nat) (x:ByteArray),i<k->l[i]?=some x->x ∉ lfs G.rs))
 case atStart=>exact⟨0,rfl,Nat.zero_le _,by omega,(⟨Below.refl _ _,fun i y j=>absurd j (Nat.not_lt_zero _)⟩:Below w.heap.size w w/\∀(i:Nat) (x:ByteArray),i<0->l[i]?=some x->x ∉ lfs G.rs)⟩
 case round =>
  obtain⟨k,rfl,R,Q,J⟩:=hrel
  by_cases B:k<n
  ·have m:(k:Int)<(n:Int):=by omega
   obtain⟨x,a⟩:∃x,l[k]?=some x:=⟨l[k]'(by rw[r.out];exact B),List.getElem?_eq_getElem _⟩
   obtain⟨b,o,t,c0⟩:=jy (H.out.below J.out.1) a;subst t;have I:=hid a;clear a
   by_cases d:x∈lfs G.rs
   ·have c:=hid (F.out wr x true J.out.1 ⟨fun _=>d,fun _=>rfl⟩)
    have f:Hid (∃x∈l,x∈lfs G.rs):=⟨x,List.mem_of_getElem? I.out,d⟩
    clear d;go_wp2_with(go_at_call 153;refine c.out.mono ?_;rintro e w1 ⟨rfl,s⟩)
    go_ret;exact⟨(k:Int),rfl,⟨fun _=>f.out,fun _=>by omega⟩,qd J.out.1 s⟩
   ·have c:=hid (F.out wr x false J.out.1 ⟨(fun e=>by cases e),fun e=>absurd e d⟩)
    have f:Hid (∀(i:Nat) (x:ByteArray),i<k+1->l[i]?=some x->x ∉ lfs G.rs):=fun i q j C=>by
     rcases Nat.lt_or_ge i k with h | h
     ·exact J.out.2 i q h C
     ·have:i=k:=by omega
      subst this;rw[I.out]at C
      cases C
      exact d
    clear d;go_wp2_with(go_at_call 153;refine c.out.mono ?_;rintro e w1 ⟨rfl,s⟩)
    go_roundg (n - (k+1))
    case measure=>omega
    case rel=>exact⟨k+1,by simp,by omega,Nat.le_refl _,(⟨qd J.out.1 s,f.out⟩:Below w.heap.size w w1/\∀(i:Nat) (x:ByteArray),i<k+1->l[i]?=some x->x ∉ lfs G.rs)⟩
  ·have m:¬(k:Int)<(n:Int):=by omega
   have f:Hid (¬∃x∈l,x∈lfs G.rs):=by
    rintro⟨x,a,O⟩;obtain⟨i,j⟩:=List.getElem?_of_mem a;exact J.out.2 i x (by have:=(List.getElem?_eq_some_iff.1 j).1;rw[r.out]at this;omega) j O
   go_wp2_with fail;go_ret;exact⟨-1,rfl,⟨fun h=>by omega,fun h=>absurd h f.out⟩,J.out.1⟩
theorem qht(G:Gm)(S:Sp)(s:Of0 G S)(i:G.rs.length<=200)(h:SHd)(w:World)(f:Nat)(u:w.heap[f]?=some (.cells (sC h S) 31 (0,0)))(t:Row w 1 h.na S.nm.length h.nc (strC S.nm))(l:List ByteArray)(d:Option Addr)(n a:Nat)(v:l.length=n)(r:Row w 1 d n a (strC l))(g:n<=1000)(b:Bool)(q:b=true↔∃x∈l,x∈lfs G.rs):
  Calls Tryz.prog 151 #[.slice d n a,.func (.func 153) #[] #[.pointer (some ⟨f,0,none⟩)]] w fun e y=>e=.returned (.bool b)/\Below w.heap.size w y:=by
 subst v;have k:=hid (qf2 G S s i h w f u t l d a r g);have j:=hid q;clear t q u r s;go_enter Tryz.func151,Tryz.ntmps151;go_wp2_with fail;refine k.out.mono ?_;rintro e w1 ⟨z,rfl,c,p⟩;have m:=hid (j.out.trans c.symm);have o:=hid p;clear c p j k
 cases b
 ·have c:¬0<=z:=fun h=>by have:=m.out.2 h;cases this
  go_wp2_with fail;go_ret;exact⟨by simp[c],o.out⟩
 ·have c:=m.out.1 rfl;go_wp2_with fail;go_ret;exact⟨by simp,o.out⟩
def NmR (G:Gm) (r:Ru):Prop:=(r.p=e0\/r.p∈tkG G)/\∀x∈r.r,x∈tkG G\/x∈lfs G.rs
theorem qmv{G:Gm}:NmP G↔(G.rs≠[]/\(¬∃x∈tkG G,x∈lfs G.rs)/\(∀r∈G.rs,NmR G r)/\kq G∈lfs G.rs):=by
 constructor
 ·intro h;refine⟨h.ne,?_,fun r a=>⟨h.pr r a,h.rr r a⟩,h.st⟩;rintro⟨x,f,b⟩;unfold tkG at f;obtain⟨t,c,rfl⟩:=List.mem_map.1 f;exact h.tk t c b
 ·rintro⟨g,i,d,j⟩;exact⟨g,fun t c b=>i ⟨t.n,by unfold tkG;exact List.mem_map.2 ⟨t,c,rfl⟩,b⟩,fun r a=>(d r a).1,fun r a=>(d r a).2,j⟩
theorem quw{G:Gm}(a:MayP G){r:Ru}(b:r∈G.rs){x:ByteArray}(c:x∈r.r):x∈nmG G↔(x∈tkG G\/x∈lfs G.rs):=by
 constructor
 ·intro h;unfold nmG at h
  rcases List.mem_append.1 h with h | h
  ·exact .inl h
  ·rcases List.mem_cons.1 h with h | h
   ·exact absurd h (qsy a b c)
   ·exact .inr h
 ·exact qby
theorem ql6(G:Gm)(hd:Hd)(S:Sp)(h:SHd)(w:World)(hG:IsG w hd G)(F:IsSp w h S)(ho:Of0 G S)(hm:MayP G)(b:Bool)(hb:b=true↔NmP G):
  Calls Tryz.prog 134 #[gv hd G,.agg (sC h S)] w fun e A=>e=.returned (.bool b)/\Below w.heap.size w A:=by
 have g7:=hG.small.nt;have f1:=hG.small.nr;have d8:=kv hG.rul
 obtain⟨m,R⟩:∃m,(lfs G.rs).length=m:=⟨_,rfl⟩
 have h5:m<=200:=by have:=vu G.rs;omega
 have h6:S.nm.length<=400:=by rw[ho.nm,jt];have:=vu G.rs;omega
 have HP:=hid (hb.trans qmv);have HG:=hid4 hG F ho hm
 have a8:Hid (∀V:World,Below w.heap.size w V->Calls Tryz.prog 152 #[.agg (sC h S)] V fun e A=>e=.returned (.slice h.na S.tk h.nc)/\Row A 1 h.na S.tk h.nc (strC (tkG G))/\Below V.heap.size V A):=fun V u=>qnx ho h V (F.below u).nm
 have b6:Hid (∀V:World,Below w.heap.size w V->Calls Tryz.prog 148 #[.agg (sC h S)] V fun e A=>∃ao c,e=.returned (.slice ao m c)/\Row A 1 ao m c (strC (lfs G.rs))/\Below V.heap.size V A):=fun V u=>qig ho h V (F.below u).nm m R
 have P:Hid (∀V:World,Below w.heap.size w V->G.rs≠[]->Calls Tryz.prog 136 #[gv hd G] V fun e A=>e=.returned (.string (kq G))/\Below V.heap.size V A):=fun V u g5=>qd6 G hd V (hG.below u) g5
 obtain⟨bt,a9⟩:=zv (∃x∈tkG G,x∈lfs G.rs);have a6:=hid a9
 have U:(tkG G).length=S.tk:=by rw[ho.tk];unfold tkG;simp
 have a5:Hid (∀(V:World) (C:Nat),Below w.heap.size w V->V.heap[C]?=some (.cells (sC h S) 31 (0,0))->Row V 1 h.na S.tk h.nc (strC (tkG G))->Calls Tryz.prog 151 #[.slice h.na S.tk h.nc,.func (.func 153) #[] #[.pointer (some ⟨C,0,none⟩)]] V fun e A=>e=.returned (.bool bt)/\Below V.heap.size V A):=fun V C u hx a=>qht G S ho f1 h V C hx (F.below u).nm (tkG G) h.na S.tk h.nc U a (by rw[ho.tk];omega) bt a9
 have f6:Hid (∀(V:World) (x:ByteArray) (f:Bool),Row V 1 h.na S.tk h.nc (strC (tkG G))->(f=true↔x∈tkG G)->Calls Tryz.prog 147 #[.slice h.na S.tk h.nc,.string x] V fun e A=>e=.returned (.bool f)/\A=V):=fun V x f a d=>by
  have:=yy (tkG G) h.na h.nc x V (by rw[U];exact a) (by rw[U,ho.tk];omega) f d
  rw[U]at this;exact this
 have f5:Hid (∀(V:World) (x:ByteArray) (f:Bool),Below w.heap.size w V->(f=true↔x∈nmG G)->Calls Tryz.prog 147 #[.slice h.na S.nm.length h.nc,.string x] V fun e A=>e=.returned (.bool f)/\A=V):=fun V x f u d=>yy S.nm h.na h.nc x V (F.below u).nm (by omega) f (by rw[ho.nm];exact d)
 have f4:Hid (∀(V:World) (ao:Option Addr) (c:Nat) (x:ByteArray) (f:Bool),Row V 1 ao m c (strC (lfs G.rs))->(f=true↔x∈lfs G.rs)->Calls Tryz.prog 147 #[.slice ao m c,.string x] V fun e A=>e=.returned (.bool f)/\A=V):=fun V ao c x f a d=>by
  have:=yy (lfs G.rs) ao c x V (by rw[R];exact a) (by rw[R];omega) f d
  rw[R]at this;exact this
 have h7:=zk F.nm;obtain⟨ta,tc,ra,rc⟩:=hd;simp only at d8;clear hG F ho hm hb a9 U R;unfold gv at P ⊢;simp only at P ⊢;have hB:Below w.heap.size w ((w.alloc (.cells #[.slice ta G.ts.length tc,.string G.s,.int .i64 G.e,.slice ra G.rs.length rc] 25)).alloc (.cells (sC h S) 31)):=qd (qb _ _) (qb _ _);have g:((w.alloc (.cells #[.slice ta G.ts.length tc,.string G.s,.int .i64 G.e,.slice ra G.rs.length rc] 25)).alloc (.cells (sC h S) 31)).heap[w.heap.size]?=some (.cells #[.slice ta G.ts.length tc,.string G.s,.int .i64 G.e,.slice ra G.rs.length rc] 25 (0,0)):=qf (qb _ _) (heap_alloc_new _ _)
 have E:((w.alloc (.cells #[.slice ta G.ts.length tc,.string G.s,.int .i64 G.e,.slice ra G.rs.length rc] 25)).alloc (.cells (sC h S) 31)).heap[w.heap.size+1]?=some (.cells (sC h S) 31 (0,0)):=by
  have:=heap_alloc_new (w.alloc (.cells #[.slice ta G.ts.length tc,.string G.s,.int .i64 G.e,.slice ra G.rs.length rc] 25)) (.cells (sC h S) 31)
  rwa [qz]at this
 obtain⟨z,O⟩:∃z,Hid (G.rs.length=z):=⟨_,rfl⟩
 obtain⟨tn,f9⟩:∃tn,Hid (G.ts.length=tn):=⟨_,rfl⟩
 rw[O.out]at f1 d8 hB g E P ⊢;rw[f9.out]at g7 hB g E P ⊢
 obtain⟨s3,b1⟩:∃s3,sC h S=s3:=⟨_,rfl⟩
 have a4:=b1;unfold sC at a4;subst a4;rw[b1]at a8 b6 a5 hB g E ⊢;clear b1;go_enter Tryz.func134,Tryz.ntmps134
 go_upto_region 1 with fail
 generalize (w.alloc (.cells #[.slice ta tn tc,.string G.s,.int .i64 G.e,.slice ra z rc] 25)).alloc (.cells #[.int .i64 (S.tk:Int),.int .i64 (S.nt:Int),.int .i64 (S.st:Int),.int .i64 S.ex,.slice h.na S.nm.length h.nc,.slice h.la S.lv.length h.lc,.slice h.aa S.az.length h.ac,.slice h.ra S.rs.length h.rc] 31)=B at hB g E ⊢
 obtain⟨Z,b4⟩:∃Z,Hid (Z=w.heap.size):=⟨_,rfl⟩
 rw[<-b4.out]at g E ⊢
 generalize Z+1=C at *
 have n:Hid (∀V:World,Below B.heap.size B V->Below w.heap.size w V/\V.heap[Z]?=some (.cells #[.slice ta tn tc,.string G.s,.int .i64 G.e,.slice ra z rc] 25 (0,0))/\V.heap[C]?=some (.cells #[.int .i64 (S.tk:Int),.int .i64 (S.nt:Int),.int .i64 (S.st:Int),.int .i64 S.ex,.slice h.na S.nm.length h.nc,.slice h.la S.lv.length h.lc,.slice h.aa S.az.length h.ac,.slice h.ra S.rs.length h.rc] 31 (0,0))):=fun V u=>⟨qd hB u,qf u g,qf u E⟩
 have CC:Hid (∀V:World,Below B.heap.size B V->V.cell? ⟨C,0,none⟩=some (.int .i64 (S.tk:Int))/\V.cell? ⟨C,1,none⟩=some (.int .i64 (S.nt:Int))/\V.cell? ⟨C,2,none⟩=some (.int .i64 (S.st:Int))/\V.cell? ⟨C,3,none⟩=some (.int .i64 S.ex)/\V.cell? ⟨C,4,none⟩=some (.slice h.na S.nm.length h.nc)/\V.cell? ⟨C,5,none⟩=some (.slice h.la S.lv.length h.lc)/\V.cell? ⟨C,6,none⟩=some (.slice h.aa S.az.length h.ac)/\V.cell? ⟨C,7,none⟩=some (.slice h.ra S.rs.length h.rc)):=fun V u=>sbox (n.out V u).2.2
 have p3:B.cell? ⟨Z,3,none⟩=some (.slice ra z rc):=by rw[qe g];rfl
 clear hB g E b4
 by_cases T:z=0
 ·have t:Hid (b=false):=by
   cases b
   ·rfl
   ·exact absurd (List.eq_nil_of_length_eq_zero (by rw[O.out];exact T)) (HP.out.1 rfl).1
  have d9:((z:Int) == 0)=true:=by simp;exact T
  clear T;go_wp2_with fail;go_ret;exact⟨by rw[t.out];rfl,(n.out _ (Below.refl _ _)).1⟩
 have d9:((z:Int) == 0)=false:=by simp;exact T
 have b8:Hid (G.rs≠[]):=fun e=>T (by rw[<-O.out,e];rfl)
 obtain⟨c0,c1,c2,c3,c4,c5,c6,c7⟩:=CC.out B (Below.refl _ _);go_wp2_with fail;refine(a8.out _ (n.out _ (Below.refl _ _)).1).mono ?_;rintro e V1 ⟨rfl,a,c9⟩;have Q:=hid2 c9 a;clear c9 a c0 c1 c2 c3 c4 c5 c6 c7 p3;go_wp2_with fail;refine(a5.out _ C (n.out _ Q.out.1).1 (n.out _ Q.out.1).2.2 Q.out.2).mono ?_;rintro e V2 ⟨rfl,d3⟩;have a2:=hid (qd Q.out.1 d3);clear d3 Q a5
 cases bt
 rotate_left
 ·have t:Hid (b=false):=by
   cases b
   ·rfl
   ·exact absurd (a6.out.1 rfl) (HP.out.1 rfl).2.1
  go_wp2_with fail;go_ret;exact⟨by rw[t.out];rfl,(n.out _ a2.out).1⟩
 have f7:Hid (¬∃x∈tkG G,x∈lfs G.rs):=fun e=>by have:=a6.out.2 e;cases this
 have p3:V2.cell? ⟨Z,3,none⟩=some (.slice ra z rc):=by rw[qe (n.out _ a2.out).2.1];rfl
 clear a6;go_wp2_with fail;clear p3
 go_loopg [22] z (fun kx s22 wr=>∃k:Nat,s22=.int .i64 k/\k<=z/\z - k<=kx/\Hid (Below B.heap.size B wr/\∀(i:Nat) (r:Ru),i<k->G.rs[i]?=some r->NmR G r))
 case atStart=>exact⟨0,rfl,Nat.zero_le _,by omega,(⟨a2.out,fun i r hi=>absurd hi (Nat.not_lt_zero _)⟩:Below B.heap.size B V2/\∀(i:Nat) (r:Ru),i<0->G.rs[i]?=some r->NmR G r)⟩
 case round =>
  clear a2;obtain⟨k,rfl,hk,hg,J⟩:=hrel
  by_cases g4:k<z
  ·have d6:(k:Int)<(z:Int):=by omega
   obtain⟨r,hr⟩:∃r,G.rs[k]?=some r:=⟨G.rs[k]'(by rw[O.out];exact g4),List.getElem?_eq_getElem _⟩
   obtain⟨bb,o,ya,yc,f0,d0,d1,d2,a⟩:=(HG.out.1.rul.below (n.out _ J.out.1).1).at hr;simp only at f0;subst f0;have g6:=(HG.out.2.2.2.rl r (List.mem_of_getElem? hr)).2.1;have h0:=zk a;have hv:Below wr.heap.size wr (wr.alloc (.cells #[.string r.l,.slice ya r.r.length yc,.string r.p] 42)):=qb _ _
   have N:Hid (Below B.heap.size B (wr.alloc (.cells #[.string r.l,.slice ya r.r.length yc,.string r.p] 42))/\(wr.alloc (.cells #[.string r.l,.slice ya r.r.length yc,.string r.p] 42)).heap[wr.heap.size]?=some (.cells #[.string r.l,.slice ya r.r.length yc,.string r.p] 42 (0,0))/\Row (wr.alloc (.cells #[.string r.l,.slice ya r.r.length yc,.string r.p] 42)) 1 ya r.r.length yc (strC r.r)/\G.rs[k]?=some r/\∀(i:Nat) (r:Ru),i<k->G.rs[i]?=some r->NmR G r):=⟨qd J.out.1 hv,heap_alloc_new _ _,a.below hv,hr,J.out.2⟩
   clear J hr hv a
   obtain⟨X,a7⟩:∃X,Hid (r.r.length=X):=⟨_,rfl⟩
   rw[a7.out]at N d1 g6 h0
   go_upto_region 6 with fail
   obtain⟨b7,b5⟩:∃b7,Hid (b7=wr.heap.size):=⟨_,rfl⟩
   rw[<-b5.out]at N ⊢;generalize wr.alloc (.cells #[.string r.l,.slice ya X yc,.string r.p] 42)=V at N ⊢;clear b5 d0 d1 d2;obtain⟨bp,d5⟩:=zv (¬(r.p=e0\/r.p∈tkG G));have H:=hid d5;clear d5
   have q2:V.cell? ⟨b7,2,none⟩=some (.string r.p):=by rw[qe N.out.2.1];rfl
   obtain⟨c0,c1,c2,c3,c4,c5,c6,c7⟩:=CC.out V N.out.1
   go_cut [22,36] from 22 to 50 (fun s22 s36 wd=>s22=.int .i64 (k:Int)/\s36=.bool bp/\Hid (Below V.heap.size V wd))
   case first =>
    by_cases hp:r.p=e0
    ·have g:=(zy r.p).2 hp;have t:=hid (zj H.out (fun h=>h (.inl hp)))
     have HD:Hid (∀q,Below V.heap.size V (V.drewN q)):=fun q=>qa2 (Below.refl _ _) q
     have mx:=qaf;clear hp;go_quiet (fail);go_wp2_with fail;go_meet;exact⟨rfl,by rw[t.out],HD.out _⟩
    ·have g:(r.p.toList == [])=false:=by
      cases hq:(r.p.toList == [])
      ·rfl
      ·exact absurd ((zy r.p).1 hq) hp
     obtain⟨f,d⟩:=zv (r.p∈tkG G);have a0:=hid d
     have t:Hid (bp=!f):=by
      show _=_
      cases f
      ·exact H.out.2 (fun e=>by rcases e with e | e;exact hp e;have:=d.2 e;cases this)
      ·exact zj H.out (fun e=>e (.inr (d.1 rfl)))
     clear hp d
     go_region_with(first | (go_at_call 152;refine(a8.out _ (n.out _ (qd N.out.1 (qo _))).1).mono ?_;rintro e V1 ⟨rfl,a,hB⟩;have z2:V1.cell? ⟨b7,2,none⟩=some (.string r.p):=qt hB q2) | (go_at_call 147;refine(f6.out _ r.p f a a0.out).mono ?_;rintro e V2 ⟨rfl,rfl⟩))
     all_goals
      have Y:Hid (Below V.heap.size V _):=qd (qo V) hB;clear hB a z2;go_wp2_with fail;go_meet;exact⟨rfl,by rw[t.out],Y⟩
   case rest =>
    obtain⟨rfl,rfl,Y⟩:=hcut
    obtain⟨V3,h2⟩:∃V3,V3=wc:=⟨_,rfl⟩
    subst wc;clear c0 c1 c2 c3 c4 c5 c6 c7 q2;have I:=hid2 (qd N.out.1 Y.out) (N.out.2.2.1.below Y.out)
    cases bp
    rotate_left
    ·have t:Hid (b=false):=by
      cases b
      ·rfl
      ·exact absurd ((HP.out.1 rfl).2.2.1 r (List.mem_of_getElem? N.out.2.2.2.1)).1 (H.out.1 rfl)
     go_wp2_with fail;go_ret;exact⟨by rw[t.out];rfl,(n.out _ I.out.1).1⟩
    have f8:Hid (r.p=e0\/r.p∈tkG G):=by
     rcases Classical.em (r.p=e0\/r.p∈tkG G) with e | e
     ·exact e
     ·have:=H.out.2 e;cases this
    have q1:V3.cell? ⟨b7,1,none⟩=some (.slice ya X yc):=by rw[qe (qf Y.out N.out.2.1)];rfl
    have a1:=hid N.out.2.2.2;clear H Y N;go_wp2_with fail;clear q1
    go_loopg [40] X (fun kx s40 wr=>∃v:Nat,s40=.int .i64 v/\v<=X/\X - v<=kx/\Hid (wr=V3/\∀(i:Nat) (x:ByteArray),i<v->r.r[i]?=some x->x∈tkG G\/x∈lfs G.rs))
    case atStart=>exact⟨0,rfl,Nat.zero_le _,by omega,(⟨rfl,fun i x hi=>absurd hi (Nat.not_lt_zero _)⟩:V3=V3/\∀(i:Nat) (x:ByteArray),i<0->r.r[i]?=some x->x∈tkG G\/x∈lfs G.rs)⟩
    case round =>
     obtain⟨v,rfl,h4,h3,K⟩:=hrel;obtain⟨g8,hK⟩:=K.out;subst g8;have HK:=hid hK;clear K hK
     by_cases d7:v<X
     ·have b0:(v:Int)<(X:Int):=by omega
      obtain⟨x,hx⟩:∃x,r.r[v]?=some x:=⟨r.r[v]'(by rw[a7.out];exact d7),List.getElem?_eq_getElem _⟩
      obtain⟨b9,o9,g9,q0⟩:=jy I.out.2 hx;subst g9;obtain⟨-,-,-,-,c4,-,-,-⟩:=CC.out wr I.out.1;obtain⟨f,d⟩:=zv (x∈nmG G);have a0:=hid (d.trans (quw HG.out.2.2.2 (List.mem_of_getElem? a1.out.1) (List.mem_of_getElem? hx)));have f3:=hid (f5.out wr x f (n.out _ I.out.1).1 d);have c8:=hid hx;clear d hx;go_wp2_with fail;refine f3.out.mono ?_;rintro e V4 ⟨rfl,rfl⟩
      cases f
      ·have t:Hid (b=false):=by
        cases b
        ·rfl
        ·have:=a0.out.2 (((HP.out.1 rfl).2.2.1 r (List.mem_of_getElem? a1.out.1)).2 x (List.mem_of_getElem? c8.out))
         cases this
       go_wp2_with fail;go_ret;exact⟨by rw[t.out];rfl,(n.out _ I.out.1).1⟩
      ·have t:Hid (∀(i:Nat) (x:ByteArray),i<v+1->r.r[i]?=some x->x∈tkG G\/x∈lfs G.rs):=fun i y hi hy=>by
        rcases Nat.lt_or_ge i v with h1 | h1
        ·exact HK.out i y h1 hy
        ·have:i=v:=by omega
         subst this;rw[c8.out]at hy
         cases hy
         exact a0.out.1 rfl
       go_wp2_with fail;go_roundg (X - (v+1))
       case measure=>omega
       case rel=>exact⟨v+1,by simp,by omega,Nat.le_refl _,(⟨rfl,t.out⟩:V4=V4/\∀(i:Nat) (x:ByteArray),i<v+1->r.r[i]?=some x->x∈tkG G\/x∈lfs G.rs)⟩
     ·have b0:¬(v:Int)<(X:Int):=by omega
      have t:Hid (Below B.heap.size B wr/\∀(i:Nat) (r:Ru),i<k+1->G.rs[i]?=some r->NmR G r):=by
       refine⟨I.out.1,fun i q hi hq=>?_⟩
       rcases Nat.lt_or_ge i k with h1 | h1
       ·exact a1.out.2 i q h1 hq
       ·have:i=k:=by omega
        subst this;rw[a1.out.1]at hq
        cases hq
        refine⟨f8.out,fun x hx=>?_⟩;obtain⟨j,hj⟩:=List.getElem?_of_mem hx;exact HK.out j x (by have:=(List.getElem?_eq_some_iff.1 hj).1;rw[a7.out]at this;omega) hj
      go_wp2_with fail;go_roundg (z - (k+1))
      case measure=>omega
      case rel=>exact⟨k+1,by simp,by omega,Nat.le_refl _,t⟩
  ·have d6:¬(k:Int)<(z:Int):=by omega
   obtain⟨bs,a3⟩:=zv (kq G∈lfs G.rs);have f2:=hid a3
   have t:Hid (b=bs):=by
    have d4:∀r∈G.rs,NmR G r:=fun r hr=>by
     obtain⟨i,hi⟩:=List.getElem?_of_mem hr;exact J.out.2 i r (by have:=(List.getElem?_eq_some_iff.1 hi).1;rw[O.out]at this;omega) hi
    cases bs
    ·exact zj HP.out (fun e=>by have:=a3.2 e.2.2.2;cases this)
    ·exact HP.out.2 ⟨b8.out,f7.out,d4,a3.1 rfl⟩
   have M:=hid J.out.1;clear J a3 HP
   have GC:Hid (∀V:World,Below B.heap.size B V->V.cell? ⟨Z,0,none⟩=some (.slice ta tn tc)/\V.cell? ⟨Z,1,none⟩=some (.string G.s)/\V.cell? ⟨Z,2,none⟩=some (.int .i64 G.e)/\V.cell? ⟨Z,3,none⟩=some (.slice ra z rc)):=fun V u=>by
    obtain⟨z0,z1,z2,z3,-⟩:=qdq (n.out V u).2.1;exact⟨z0,z1,z2,z3⟩
   obtain⟨c0,c1,c2,c3,c4,c5,c6,c7⟩:=CC.out wr M.out;obtain⟨g0,g1,g2,g3⟩:=GC.out wr M.out
   go_upto_region 15 with fail
   go_region_with(first
    | (go_at_call 148;refine(b6.out _ (by first | exact(n.out _ (qd M.out (qo _))).1 | exact(n.out _ (qd (qd M.out (qo _)) D)).1)).mono ?_;rintro e VL ⟨ao,c,rfl,a,L⟩;obtain⟨k0,k1,v,k3⟩:=GC.out VL (by first | exact qd (qd M.out (qo _)) L | exact qd (qd (qd M.out (qo _)) D) L))
    | (go_at_call 136;refine(P.out _ (by first | exact(n.out _ (qd M.out (qo _))).1 | exact(n.out _ (qd (qd M.out (qo _)) L)).1) b8.out).mono ?_;rintro e VS ⟨rfl,D⟩;obtain⟨y0,y1,y2,y3,y4,y5,y6,y7⟩:=CC.out VS (by first | exact qd (qd M.out (qo _)) D | exact qd (qd (qd M.out (qo _)) L) D))
    | (go_at_call 147;refine(f4.out _ ao c (kq G) bs (by first | exact a | exact a.below D) f2.out).mono ?_;rintro e V9 ⟨rfl,rfl⟩))
   all_goals first
    | (have Y:Hid (Below w.heap.size w _):=(n.out _ (qd (qd (qd M.out (qo _)) L) D)).1
       go_wp2_with fail;go_ret
       exact⟨by rw[t.out];rfl,Y.out⟩)
    | (have Y:Hid (Below w.heap.size w _):=(n.out _ (qd (qd (qd M.out (qo _)) D) L)).1
       go_wp2_with fail;go_ret
       exact⟨by rw[t.out];rfl,Y.out⟩)
theorem qc8{w:World}{a b n x:Nat}{fd:List Bool}(h:w.ownsRow a 4 1 (.slice (some ⟨b,0,none⟩) n n) n (booC fd))(c:fd.length=n)(d:x<n):w.cell? ⟨b,x,none⟩=some (.bool (isF fd x)):=by
 rw[h.cellAt x (by omega)];unfold booC;rw[List.getElem?_map,vy (by omega)];rfl
theorem qay{P:Nat->Prop}{fd:List Bool}(h:xm P fd){x:Nat}(a:x<fd.length):isF fd x=true↔P x:=h x (isF fd x) (vy a)
theorem qjd(w:World)(h:SHd)(S:Sp)(i:WF S)(v:IsSp w h S)(b:Bool)(hb:b=true↔qbv S):Calls Tryz.prog 138 #[sv h S] w fun e N=>e=.returned (.bool b)/\Below w.heap.size w N:=by
 obtain⟨n,p⟩:∃n,n=S.tk+1+S.nt:=⟨_,rfl⟩
 have hn:n<=1000:=by have:=i.tk;have:=i.nt;omega
 have s:Hid (∀V:World,Below w.heap.size w V->Calls Tryz.prog 107 #[.agg (sC h S)] V fun e N=>BRes V N n (Der S) e):=fun V K=>qb9 V h S n p i (v.below K)
 have r:Hid (∀V:World,Below w.heap.size w V->Calls Tryz.prog 44 #[.agg (sC h S)] V fun e N=>BRes V N n (Rch S) e):=fun V K=>qd3 V h S n p i (v.below K)
 have HP:=hid hb;have z:Below w.heap.size w (w.alloc (.cells (sC h S) 31)):=qb _ _;have q:(w.alloc (.cells (sC h S) 31)).heap[w.heap.size]?=some (.cells (sC h S) 31 (0,0)):=heap_alloc_new _ _
 have u:S.nm.length=n:=by rw[p];exact i.nm
 have a3:=i.tk;have a0:=zk v.nm;rw[u]at a0;have HN:=hid p;clear i v hb p;unfold sv sC;unfold sC at s r;rw[u]at s r ⊢;go_enter Tryz.func138,Tryz.ntmps138
 go_upto_region 1 with fail
 have e0:w.alloc (.cells #[.int .i64 (S.tk:Int),.int .i64 (S.nt:Int),.int .i64 (S.st:Int),.int .i64 S.ex,.slice h.na n h.nc,.slice h.la S.lv.length h.lc,.slice h.aa S.az.length h.ac,.slice h.ra S.rs.length h.rc] 31)=w.alloc (.cells (sC h S) 31):=by unfold sC;rw[u]
 rw[e0];generalize w.alloc (.cells (sC h S) 31)=W0 at z q ⊢
 obtain⟨j,D⟩:∃j,Hid (j=w.heap.size):=⟨_,rfl⟩
 rw[<-D.out]at q ⊢;have a:=hid2 z q
 have C:Hid (∀V:World,V.heap[j]?=some (.cells (sC h S) 31 (0,0))->V.cell? ⟨j,0,none⟩=some (.int .i64 (S.tk:Int))/\V.cell? ⟨j,1,none⟩=some (.int .i64 (S.nt:Int))/\V.cell? ⟨j,2,none⟩=some (.int .i64 (S.st:Int))/\V.cell? ⟨j,3,none⟩=some (.int .i64 S.ex)/\V.cell? ⟨j,4,none⟩=some (.slice h.na n h.nc)/\V.cell? ⟨j,5,none⟩=some (.slice h.la S.lv.length h.lc)/\V.cell? ⟨j,6,none⟩=some (.slice h.aa S.az.length h.ac)/\V.cell? ⟨j,7,none⟩=some (.slice h.ra S.rs.length h.rc)):=fun V K=>by
  have:=sbox K;rw[u]at this;exact this
 obtain⟨c0,c1,c2,c3,c4,c5,c6,c7⟩:=C.out W0 q;clear e0 z q D
 go_cut [3,4] (fun s3 s4 wd=>∃O P:Nat,s3=.slice (some ⟨O,0,none⟩) n n/\s4=.slice (some ⟨P,0,none⟩) n n/\Hid (∃f g:List Bool,f.length=n/\g.length=n/\xm (Der S) f/\xm (Rch S) g/\wd.ownsRow 0 4 1 (.slice (some ⟨O,0,none⟩) n n) n (booC f)/\wd.ownsRow 0 4 1 (.slice (some ⟨P,0,none⟩) n n) n (booC g)/\Below w.heap.size w wd/\wd.heap[j]?=some (.cells (sC h S) 31 (0,0))))
 case first =>
  go_region_with(first
   | (go_at_call 107;refine(s.out _ (by first | exact qd a.out.1 (qo _) | exact qd (qd a.out.1 (qo _)) c)).mono ?_;rintro e H ⟨R,dy,rfl,X,Y,ty,d⟩;obtain⟨y0,y1,y2,y3,y4,y5,y6,y7⟩:=C.out H (qf d (by first | exact a.out.2 | exact qf c a.out.2)))
   | (go_at_call 44;refine(r.out _ (by first | exact qd a.out.1 (qo _) | exact qd (qd a.out.1 (qo _)) d)).mono ?_;rintro e G ⟨Q,dr,rfl,U,or_,Z,c⟩;obtain⟨x0,A,B,x3,x4,x5,x6,x7⟩:=C.out G (qf c (by first | exact a.out.2 | exact qf d a.out.2))))
  all_goals first
   | (have l:Hid (∃f g:List Bool,f.length=n/\g.length=n/\xm (Der S) f/\xm (Rch S) g/\G.ownsRow 0 4 1 (.slice (some ⟨R,0,none⟩) n n) n (booC f)/\G.ownsRow 0 4 1 (.slice (some ⟨Q,0,none⟩) n n) n (booC g)/\Below w.heap.size w G/\G.heap[j]?=some (.cells (sC h S) 31 (0,0))):=⟨dy,dr,X,U,ty,Z,zl (zc Y (Nat.zero_le _)) c,zc or_ (Nat.zero_le _),qd (qd (qd a.out.1 (qo _)) d) c,qf c (qf d a.out.2)⟩
      clear y0 y1 y2 y3 y4 y5 y6 y7 x0 A B x3 x4 x5 x6 x7 Y or_ X U ty Z d c;go_wp2_with fail;go_meet
      exact⟨R,Q,rfl,rfl,l⟩)
   | (have l:Hid (∃f g:List Bool,f.length=n/\g.length=n/\xm (Der S) f/\xm (Rch S) g/\H.ownsRow 0 4 1 (.slice (some ⟨R,0,none⟩) n n) n (booC f)/\H.ownsRow 0 4 1 (.slice (some ⟨Q,0,none⟩) n n) n (booC g)/\Below w.heap.size w H/\H.heap[j]?=some (.cells (sC h S) 31 (0,0))):=⟨dy,dr,X,U,ty,Z,zc Y (Nat.zero_le _),zl (zc or_ (Nat.zero_le _)) d,qd (qd (qd a.out.1 (qo _)) c) d,qf d (qf c a.out.2)⟩
      clear y0 y1 y2 y3 y4 y5 y6 y7 x0 A B x3 x4 x5 x6 x7 Y or_ X U ty Z d c;go_wp2_with fail;go_meet
      exact⟨R,Q,rfl,rfl,l⟩)
 case rest =>
  obtain⟨O,P,rfl,rfl,J0⟩:=hcut
  obtain⟨w2,a4⟩:∃w2,w2=wc:=⟨_,rfl⟩
  subst wc;clear c0 c1 c2 c3 c4 c5 c6 c7 s r a;obtain⟨f,g,l1,l2,t1,t2,o1,o2,I,L⟩:=J0.out
  have m:Hid (f.length=n/\g.length=n/\xm (Der S) f/\xm (Rch S) g/\w2.ownsRow 0 4 1 (.slice (some ⟨O,0,none⟩) n n) n (booC f)/\w2.ownsRow 0 4 1 (.slice (some ⟨P,0,none⟩) n n) n (booC g)/\Below w.heap.size w w2):=⟨l1,l2,t1,t2,o1,o2,I⟩
  obtain⟨c0,-,-,-,c4,-,-,-⟩:=C.out w2 L;clear l1 l2 t1 t2 o1 o2 I L J0 C;go_wp2_with fail
  go_loopg [5] n (fun kx s5 wr=>∃k:Nat,s5=.int .i64 k/\S.tk+1<=k/\k<=n/\n - k<=kx/\Hid (wr=w2/\∀x,S.tk<x->x<k->Der S x/\Rch S x))
  case atStart=>exact⟨S.tk+1,by simp,Nat.le_refl _,by have:=HN.out;omega,by omega,(⟨rfl,fun x T h2=>by omega⟩:w2=w2/\∀x,S.tk<x->x<S.tk+1->Der S x/\Rch S x)⟩
  case round =>
   obtain⟨k,rfl,a2,hk,hg,J⟩:=hrel;obtain⟨a1,hJ⟩:=J.out;subst a1;have HK:=hid hJ;clear J hJ
   by_cases t:k<n
   ·have M:(k:Int)<(n:Int):=by omega
    have q1:=qc8 m.out.2.2.2.2.1 m.out.1 t;have q2:=qc8 m.out.2.2.2.2.2.1 m.out.2.1 t
    obtain⟨A,E⟩:∃A,Hid (isF f k=A):=⟨_,rfl⟩
    obtain⟨B,F⟩:∃B,Hid (isF g k=B):=⟨_,rfl⟩
    rw[E.out]at q1;rw[F.out]at q2
    have T1:Hid (A=true↔Der S k):=by rw[<-E.out];exact qay m.out.2.2.1 (by rw[m.out.1];exact t)
    have T2:Hid (B=true↔Rch S k):=by rw[<-F.out];exact qay m.out.2.2.2.1 (by rw[m.out.2.1];exact t)
    have o:(¬Der S k\/¬Rch S k)->Hid (b=true):=fun e=>HP.out.2 ⟨k,by omega,by have:=HN.out;omega,e⟩
    cases A
    ·have l:=o (.inl (fun e=>by have:=T1.out.2 e;cases this))
     clear o;go_wp2_with fail;go_ret;exact⟨by rw[l.out];rfl,m.out.2.2.2.2.2.2⟩
    ·cases B
     ·have l:=o (.inr (fun e=>by have:=T2.out.2 e;cases this))
      clear o;go_wp2_with fail;go_ret;exact⟨by rw[l.out];rfl,m.out.2.2.2.2.2.2⟩
     ·have l:Hid (∀x,S.tk<x->x<k+1->Der S x/\Rch S x):=fun x T h2=>by
       rcases Nat.lt_or_ge x k with y | y
       ·exact HK.out x T y
       ·have:x=k:=by omega
        subst this;exact⟨T1.out.1 rfl,T2.out.1 rfl⟩
      clear o;go_wp2_with fail;go_roundg (n - (k+1))
      case measure=>omega
      case rel=>exact⟨k+1,by simp,by omega,by omega,Nat.le_refl _,(⟨rfl,l.out⟩:wr=wr/\∀x,S.tk<x->x<k+1->Der S x/\Rch S x)⟩
   ·have M:¬(k:Int)<(n:Int):=by omega
    have l:Hid (b=false):=by
     cases b
     ·rfl
     ·obtain⟨x,T,h2,y⟩:=HP.out.1 rfl;have h4:=HK.out x T (by have:=HN.out;omega)
      rcases y with y | y
      ·exact absurd h4.1 y
      ·exact absurd h4.2 y
    go_wp2_with fail;go_ret;exact⟨by rw[l.out];rfl,m.out.2.2.2.2.2.2⟩
structure OX (w W:World) (gb rb sb:Nat) (h:Hd) (G:Gm) (hh:SHd) (S:Sp) (qs:List (SR × Option Addr × Nat)):Prop where
 gx:W.heap[gb]?=some (.cells #[.slice h.ta G.ts.length h.tc,.string G.s,.int .i64 G.e,.slice h.ra G.rs.length h.rc] 25 (0,0))
 rx:W.heap[rb]?=some (.cells zC 31 (0,0))
 sx:W.heap[sb]?=some (.cells (sC hh S) 31 (0,0))
 own:OwnSp W w.heap.size hh S qs
 bel:Below w.heap.size w W
 ne:rb≠sb
 nw:w.heap.size<=sb
theorem OX.step{w W b:World}{c f g:Nat}{h:Hd}{G:Gm}{d:SHd}{S:Sp}{qs:List (SR × Option Addr × Nat)}(s:OX w W c f g h G d S qs)(a:Below W.heap.size W b):OX w b c f g h G d S qs :=
 ⟨qf a s.gx,qf a s.rx,qf a s.sx,s.own.step a,qd s.bel a,s.ne,s.nw⟩
theorem qbz{W:World}{a j b T:Nat}{u:Value}{c:Array Value}(d:W.heap[b]?=some (.cells c T (0,0)))(f:b≠a):(W.setCell ⟨a,j,none⟩ u).heap[b]?=some (.cells c T (0,0)):=by
 rw[Below.heap_setCell _ _ _ _ f];exact d
theorem OX.putSt{w W:World}{b d a:Nat}{h:Hd}{G:Gm}{c:SHd}{S:Sp}{qs:List (SR × Option Addr × Nat)}(s:OX w W b d a h G c S qs)(x:Nat):OX w (W.setCell ⟨a,2,none⟩ (.int .i64 (x:Int))) b d a h G c ⟨S.tk,S.nt,x,S.ex,S.nm,S.lv,S.az,S.rs⟩ qs:=by
 have f:=s.own.far (j:=2) (u:=.int .i64 (x:Int)) ⟨_,s.sx⟩;refine⟨qbz s.gx (qu ⟨_,s.gx⟩ ⟨_,s.sx⟩ (by decide)),qbz s.rx s.ne,?_,⟨f.nm,f.lv,f.az,f.rl,f.map,f.row⟩,s.bel.setCell (p:=⟨a,2,none⟩) s.nw _,s.ne,s.nw⟩;rw[yj s.sx];unfold sC;simp
theorem OX.putRs{w W:World}{g k d n:Nat}{h:Hd}{G:Gm}{a:SHd}{S:Sp}{qs rs:List (SR × Option Addr × Nat)}(s:OX w W g k d h G a S qs)(b:Option Addr)(c:Nat)(i:rs.length=n)(l:W.ownsRow w.heap.size 56 4 (.slice b n c) n (srC rs))(o:∀q∈rs,W.ownsRow w.heap.size 3 1 (.slice q.2.1 q.1.r.length q.2.2) q.1.r.length (natC q.1.r)):OX w (W.setCell ⟨d,7,none⟩ (.slice b n c)) g k d h G ⟨a.na,a.nc,a.la,a.lc,a.aa,a.ac,b,c⟩ ⟨S.tk,S.nt,S.st,S.ex,S.nm,S.lv,S.az,rs.map (·.1)⟩ rs:=by
 have f:=s.own.far (j:=7) (u:=.slice b n c) ⟨_,s.sx⟩
 have e:(rs.map (·.1)).length=n:=by rw[List.length_map];exact i
 refine⟨qbz s.gx (qu ⟨_,s.gx⟩ ⟨_,s.sx⟩ (by decide)),qbz s.rx s.ne,?_,⟨f.nm,f.lv,f.az,?_,rfl,fun q m=>xz (o q m) ⟨_,s.sx⟩ (by decide)⟩,s.bel.setCell (p:=⟨d,7,none⟩) s.nw _,s.ne,s.nw⟩
 ·rw[yj s.sx];unfold sC;simp[i]
 ·simp only[e];exact xz l ⟨_,s.sx⟩ (by decide)
theorem box8{W:World}{b:Nat}{c0 c1 c2 a c d f g:Value}(h:W.heap[b]?=some (.cells #[c0,c1,c2,a,c,d,f,g] 31 (0,0))):W.cell? ⟨b,0,none⟩=some c0/\W.cell? ⟨b,1,none⟩=some c1/\W.cell? ⟨b,2,none⟩=some c2/\W.cell? ⟨b,3,none⟩=some a/\W.cell? ⟨b,4,none⟩=some c/\W.cell? ⟨b,5,none⟩=some d/\W.cell? ⟨b,6,none⟩=some f/\W.cell? ⟨b,7,none⟩=some g:=by
 refine⟨?_,?_,?_,?_,?_,?_,?_,?_⟩ <;> (rw[qe h];rfl)
theorem qa6{W:World}{b:Nat}{c:Array Value}(h:W.heap[b]?=some (.cells c 31 (0,0))):W.frozen? ⟨b,0,none⟩=false/\W.frozen? ⟨b,1,none⟩=false/\W.frozen? ⟨b,2,none⟩=false/\W.frozen? ⟨b,3,none⟩=false/\W.frozen? ⟨b,4,none⟩=false/\W.frozen? ⟨b,5,none⟩=false/\W.frozen? ⟨b,6,none⟩=false/\W.frozen? ⟨b,7,none⟩=false :=
 ⟨qj h 0,qj h 1,qj h 2,qj h 3,qj h 4,qj h 5,qj h 6,qj h 7⟩
theorem box4{W:World}{b T:Nat}{c0 c1 c2 a:Value}(h:W.heap[b]?=some (.cells #[c0,c1,c2,a] T (0,0))):W.cell? ⟨b,0,none⟩=some c0/\W.cell? ⟨b,1,none⟩=some c1/\W.cell? ⟨b,2,none⟩=some c2/\W.cell? ⟨b,3,none⟩=some a:=by
 refine⟨?_,?_,?_,?_⟩ <;> (rw[qe h];rfl)
theorem OwnSp.mono{W:World}{b a:Nat}{h:SHd}{S:Sp}{qs:List (SR × Option Addr × Nat)}(s:OwnSp W b h S qs)(c:a<=b):OwnSp W a h S qs :=
 ⟨zc s.nm c,zc s.lv c,zc s.az c,zc s.rl c,s.map,fun q d=>zc (s.row q d) c⟩
theorem OX.first{w W:World}{d i:Nat}{h:Hd}{G:Gm}{b:SHd}{S:Sp}{qs:List (SR × Option Addr × Nat)}{c:Array Value}(k:W.heap[d]?=some (.cells #[.slice h.ta G.ts.length h.tc,.string G.s,.int .i64 G.e,.slice h.ra G.rs.length h.rc] 25 (0,0)))(g:W.heap[i]?=some (.cells zC 31 (0,0)))(j:sC b S=c)(l:OwnSp W w.heap.size b S qs)(f:Below w.heap.size w W):OX w (W.alloc (.cells c 31)) d i W.heap.size h G b S qs:=by
 have a:Below W.heap.size W (W.alloc (.cells c 31)):=qb _ _;have m:=(Array.getElem?_eq_some_iff.1 g).1;refine⟨qf a k,qf a g,?_,l.step a,qd f a,by omega,f.size⟩;rw[j];exact heap_alloc_new _ _
theorem qt4{W:World}{B n i:Nat}{b:Option Addr}{l:List ByteArray}(h:W.ownsRow B 9 1 (.slice b n i) n (strC l))(j:B<=W.heap.size)(p:n<10000)(x:ByteArray):
  ∃g c a,(Builtin.append_ #[27,27] 27 #[.slice b n i,.slice (some ⟨W.heap.size,0,none⟩) 1 1]).run Tryz.prog (W.alloc (.cells #[.string x] 9))=.ok (.slice (some ⟨g,0,none⟩) (n+1) c) a/\a.ownsRow B 9 1 (.slice (some ⟨g,0,none⟩) (n+1) c) (n+1) (strC (l++[x]))/\Kept (fun k=>blk b=some k) W a:=by
 obtain⟨g,c,a,o,d,m,-⟩:=xy (us:=[.string x]) u28 i9 rfl (by decide) (by decide) rfl (fun u f=>by rw[List.mem_singleton]at f;subst f;rfl) h j (by omega)
 have e:strC (l++[x])=strC l++[.string x]:=by unfold strC;rw[List.map_append];rfl
 rw[<-e]at d;exact⟨g,c,a,o,d,((Kept.refl _ W).alloc _).trans m (fun k _ e=>ze e)⟩
theorem qcc(G:Gm)(h:Hd)(w:World)(H:IsG w h G):Calls Tryz.prog 23 #[gv h G] w fun e I=>∃d c,e=.returned (.slice d (lfs G.rs).length c)/\I.ownsRow w.heap.size 9 1 (.slice d (lfs G.rs).length c) (lfs G.rs).length (strC (lfs G.rs))/\Below w.heap.size w I:=by
 have Q:=H.small.nr;have A:=kv H.rul;have V:=hid H;clear H;obtain⟨p,q,E,m⟩:=h;unfold gv;simp only at A ⊢;have D:Below w.heap.size w (w.alloc (.cells #[.slice p G.ts.length q,.string G.s,.int .i64 G.e,.slice E G.rs.length m] 25)):=qb _ _;have j:(w.alloc (.cells #[.slice p G.ts.length q,.string G.s,.int .i64 G.e,.slice E G.rs.length m] 25)).heap[w.heap.size]?=some (.cells #[.slice p G.ts.length q,.string G.s,.int .i64 G.e,.slice E G.rs.length m] 25 (0,0)):=heap_alloc_new _ _
 obtain⟨F,L⟩:∃F,Hid (G.ts.length=F):=⟨_,rfl⟩
 obtain⟨a,f⟩:∃a,Hid (G.rs.length=a):=⟨_,rfl⟩
 rw[L.out]at D j ⊢;rw[f.out]at Q A D j ⊢;go_enter Tryz.func23,Tryz.ntmps23
 go_upto_region 1 with fail
 generalize w.alloc (.cells #[.slice p F q,.string G.s,.int .i64 G.e,.slice E a m] 25)=W1 at D j ⊢
 obtain⟨v,t⟩:∃v,Hid (v=w.heap.size):=⟨_,rfl⟩
 rw[<-t.out]at j ⊢;have H1:=hid2 j D;clear j D t;go_wp2_with fail
 go_loopg [3,4] a (fun kx s3 s4 wr=>∃(k:Nat) (d:Option Addr) (n c:Nat),s3=.slice d n c/\s4=.int .i64 k/\k<=a/\a - k<=kx/\Hid ((lfs (G.rs.take k)).length=n/\wr.ownsRow w.heap.size 9 1 (.slice d n c) n (strC (lfs (G.rs.take k)))/\Below w.heap.size w wr/\wr.heap[v]?=some (.cells #[.slice p F q,.string G.s,.int .i64 G.e,.slice E a m] 25 (0,0))))
 case atStart=>exact⟨0,none,0,0,rfl,rfl,Nat.zero_le _,by omega,rfl,World.ownsRow_nil _ _ _ _,H1.out.2,H1.out.1⟩
 case round =>
  clear H1;obtain⟨k,d,n,c,rfl,rfl,Y,hg,J⟩:=hrel;obtain⟨p0,p1,p2,p3⟩:=box4 J.out.2.2.2
  by_cases O:k<a
  ·have y:(k:Int)<(a:Int):=by omega
   obtain⟨r,P⟩:∃r,G.rs[k]?=some r:=⟨G.rs[k]'(by rw[f.out];exact O),List.getElem?_eq_getElem _⟩
   have S:=hid P;obtain⟨b,o,xa,xc,B,d0,d1,d2,-⟩:=(V.out.rul.below J.out.2.2.1).at P;simp only at B;subst B
   have Z:n<=200:=by have:=qcv G.rs k;have:=J.out.1;omega
   have u:Hid (Calls Tryz.prog 24 #[.slice d n c,.string r.l] wr fun e I=>e=.returned (.int .i64 (idxI (zh (lfs (G.rs.take k)) r.l)))/\I=wr):=by
    have:=qa4 (lfs (G.rs.take k)) d c r.l wr (by rw[J.out.1];exact Row.of_own J.out.2.1) (by rw[J.out.1];omega)
    rw[J.out.1]at this;exact this
   obtain⟨g,X,N,C,T,i⟩:=qt4 J.out.2.1 J.out.2.2.1.size (by omega) r.l
   have U:Hid (N.ownsRow w.heap.size 9 1 (.slice (some ⟨g,0,none⟩) (n+1) X) (n+1) (strC (lfs (G.rs.take k)++[r.l]))/\Below w.heap.size w N/\N.heap[v]?=some (.cells #[.slice p F q,.string G.s,.int .i64 G.e,.slice (some ⟨b,o,none⟩) a m] 25 (0,0))):=by
    refine⟨T,J.out.2.2.1.trans (i.below J.out.2.2.1.size (fun k Y e=>?_)),?_⟩
    ·have:=(qw J.out.2.1 e).1;omega
    ·rw[i.block v (Array.getElem?_eq_some_iff.1 J.out.2.2.2).1 (fun e=>qu ⟨_,J.out.2.2.2⟩ (qw J.out.2.1 e).2.2 (by decide) rfl)];exact J.out.2.2.2
   clear T i P
   obtain⟨z,M⟩:∃z,Hid (idxI (zh (lfs (G.rs.take k)) r.l)=z):=⟨_,rfl⟩
   rw[M.out]at u;go_wp2_with fail;refine u.out.mono ?_;rintro e wq ⟨rfl,rfl⟩
   by_cases hz:z<0
   ·have K:Hid (lfs (G.rs.take (k+1))=lfs (G.rs.take k)++[r.l]):=by
     rw[qdo S.out];unfold lfS;rw[if_neg (fun e=>by have:=(qa5 _).2 e;rw[M.out]at this;omega)]
     exact rfl
    go_wp2_with(at_builtin;refine Lib.wpList_append_run _ rfl _ _ _ _ rfl _ _ rfl rfl _ _ C ?_)
    go_roundg (a - (k+1))
    case measure=>omega
    case rel =>
     refine⟨k+1,_,_,_,rfl,by simp,by omega,Nat.le_refl _,?_⟩;rw[K.out];exact⟨by simp[J.out.1],U.out⟩
   ·have K:Hid (lfs (G.rs.take (k+1))=lfs (G.rs.take k)):=by
     rw[qdo S.out];unfold lfS;rw[if_pos ((qa5 _).1 (by rw[M.out];omega))]
     exact rfl
    go_wp2_with fail;go_roundg (a - (k+1))
    case measure=>omega
    case rel =>
     refine⟨k+1,_,_,_,rfl,by simp,by omega,Nat.le_refl _,?_⟩;rw[K.out];exact J.out
  ·have y:¬(k:Int)<(a:Int):=by omega
   have x:k=a:=by omega
   have R:Hid ((lfs G.rs).length=n/\wr.ownsRow w.heap.size 9 1 (.slice d n c) n (strC (lfs G.rs))/\Below w.heap.size w wr):=by
    have:=J.out;rw[List.take_of_length_le (by rw[f.out,x];exact Nat.le_refl _)]at this
    exact⟨this.1,this.2.1,this.2.2.1⟩
   clear J x;go_wp2_with fail;go_ret;rw[R.out.1];exact⟨_,_,rfl,R.out.2⟩
theorem qgx(G:Gm)(h:Hd)(w:World)(g:IsG w h G)(s:ByteArray):
  Calls Tryz.prog 40 #[gv h G,.string s] w fun e R=>e=.returned (.int .i64 (idxI (zh (tkG G) s)))/\Below w.heap.size w R:=by
 obtain⟨ts,A,r,rs⟩:=G;obtain⟨c,a,t,x⟩:=h
 have K:ts.length<=a/\a<=9223372036854775807:=by have Q:=g.tok.le;have N:=g.tok.max;simp only at Q N;unfold maxLen at N;omega
 have L:ts.length<=100:=g.small.nt;have F:Hid (Row w 3 c ts.length a (tokC ts)):=g.tok;unfold gv tkG;simp only;clear g
 obtain⟨n,E⟩:∃n,Hid (ts.length=n):=⟨_,rfl⟩
 rw[E.out]at F K L ⊢;generalize rs.length=z
 obtain⟨l,B⟩:∃l,Hid (ts.map (·.n)=l):=⟨_,rfl⟩
 rw[B.out]
 have D:Hid (l.length=n):=by rw[<-B.out,List.length_map];exact E.out
 have C:Hid (∀(i:Nat) (u:Tk),ts[i]?=some u->l[i]?=some u.n):=fun i u m=>by rw[<-B.out,List.getElem?_map,m];rfl
 go_enter Tryz.func40,Tryz.ntmps40
 go_upto_region 1 with fail
 have c0:(w.alloc (.cells #[.slice c n a,.string A,.int .i64 r,.slice t z x] 25)).cell? ⟨w.heap.size,0,none⟩=some (.slice c n a):=by rw[World.cell?_alloc_mark];rfl
 have p:Hid (Below w.heap.size w (w.alloc (.cells #[.slice c n a,.string A,.int .i64 r,.slice t z x] 25))/\Row (w.alloc (.cells #[.slice c n a,.string A,.int .i64 r,.slice t z x] 25)) 3 c n a (tokC ts)):=⟨qb _ _,F.out.below (qb _ _)⟩
 generalize w.alloc (.cells #[.slice c n a,.string A,.int .i64 r,.slice t z x] 25)=V at c0 p ⊢;generalize w.heap.size=S at c0 ⊢;clear F;go_wp2
 go_loop [5] (fun v=>∃i:Nat,i<=n/\v=.int .i64 i/\Hid (∀(j:Nat) (y:ByteArray),j<i->l[j]?=some y->y≠s)) (fun v=>n - (intOf v).toNat)
 case atStart=>exact⟨0,Nat.zero_le _,rfl,(fun j u h=>absurd h (Nat.not_lt_zero _):∀(j:Nat) (y:ByteArray),j<0->l[j]?=some y->y≠s)⟩
 case round =>
  obtain⟨i,T,rfl,J⟩:=hrel
  by_cases I:i<n
  ·have k:(i:Int)<(n:Int):=by omega
   obtain⟨u,m⟩:∃u,ts[i]?=some u:=⟨ts[i]'(by rw[E.out];exact I),List.getElem?_eq_getElem _⟩
   obtain⟨b,o,rfl,P,-,-⟩:=jd p.out.2 m;have q:=hid (C.out i u m);clear m
   by_cases d:u.n=s
   ·have H:=xv d
    have f:Hid (idxI (zh l s)=(i:Int)):=by
     show _=_;rw[qdm J.out q.out d];rfl
    generalize u.n=un at P H q;clear d;go_wp2;go_ret;exact⟨by rw[f.out];rfl,p.out.1⟩
   ·have H:=xu d
    have f:Hid (∀(j:Nat) (y:ByteArray),j<i+1->l[j]?=some y->y≠s):=fun j v U M=>by
     rcases Nat.lt_or_ge j i with h | h
     ·exact J.out j v h M
     ·have:j=i:=by omega
      subst this;rw[q.out]at M
      cases M
      exact d
    generalize u.n=un at P H q;clear d;go_wp2
    go_round
    case rel=>exact⟨i+1,by omega,by simp,f⟩
    case measure=>simp[intOf];omega
  ·have k:¬(i:Int)<(n:Int):=by omega
   have f:Hid (idxI (zh l s)=-1):=by
    show _=_;rw[qbu (fun j y O=>J.out j y (by have:=(List.getElem?_eq_some_iff.1 O).1;rw[D.out]at this;omega) O)]
    rfl
   go_wp2;go_ret;exact⟨by rw[f.out];rfl,p.out.1⟩
theorem ql7(G:Gm)(h:Hd)(w:World)(B:IsG w h G)(q:Bool)(hq:q=true↔vo G):Calls Tryz.prog 21 #[gv h G] w fun e O=>e=.returned (.bool q)/\Below w.heap.size w O:=by
 have Z:=B.small.nt;have a0:=B.small.nr;have D:=kv B.rul;have H:=hid B;have HQ:=hid hq;clear B hq
 have a:Hid (∀V,Below w.heap.size w V->Calls Tryz.prog 23 #[gv h G] V fun e O=>∃I c,e=.returned (.slice I (lfs G.rs).length c)/\Below w.heap.size w O):=fun V hV=>(qcc G h V (H.out.below hV)).mono (fun e O ⟨I,c,S,_,hb⟩=>⟨I,c,S,qd hV hb⟩)
 obtain⟨N,p,L,M⟩:=h;unfold gv at a ⊢;simp only at D a ⊢
 have Y:G.ts.length<=p/\p<=9223372036854775807:=by have A:=H.out.tok.le;have K:=H.out.tok.max;simp only at A K;unfold maxLen at K;omega
 have g:Below w.heap.size w (w.alloc (.cells #[.slice N G.ts.length p,.string G.s,.int .i64 G.e,.slice L G.rs.length M] 25)):=qb _ _;have n:(w.alloc (.cells #[.slice N G.ts.length p,.string G.s,.int .i64 G.e,.slice L G.rs.length M] 25)).heap[w.heap.size]?=some (.cells #[.slice N G.ts.length p,.string G.s,.int .i64 G.e,.slice L G.rs.length M] 25 (0,0)):=heap_alloc_new _ _
 obtain⟨l,z⟩:∃l,Hid (G.ts.length=l):=⟨_,rfl⟩
 obtain⟨d,f⟩:∃d,Hid (G.rs.length=d):=⟨_,rfl⟩
 obtain⟨m,HM⟩:∃m,Hid ((lfs G.rs).length=m):=⟨_,rfl⟩
 rw[z.out]at Z Y g n a ⊢;rw[f.out]at a0 D g n a ⊢;rw[HM.out]at a;go_enter Tryz.func21,Tryz.ntmps21
 go_upto_region 1 with fail
 generalize w.alloc (.cells #[.slice N l p,.string G.s,.int .i64 G.e,.slice L d M] 25)=W1 at g n ⊢
 obtain⟨gb,x⟩:∃gb,Hid (gb=w.heap.size):=⟨_,rfl⟩
 rw[<-x.out]at n ⊢;obtain⟨p0,p1,p2,p3⟩:=box4 n;have H1:=hid g;clear n g x;go_wp2
 go_loop [3] (fun v=>∃i:Nat,i<=d/\v=.int .i64 i/\Hid (∀(j:Nat) (r:Ru),j<i->G.rs[j]?=some r->r.r.length<=6)) (fun v=>d - (intOf v).toNat)
 case atStart=>exact⟨0,Nat.zero_le _,rfl,(fun j u h=>absurd h (Nat.not_lt_zero _):∀(j:Nat) (r:Ru),j<0->G.rs[j]?=some r->r.r.length<=6)⟩
 case round =>
  obtain⟨i,hi,rfl,J⟩:=hrel
  by_cases X:i<d
  ·have C:(i:Int)<(d:Int):=by omega
   obtain⟨r,E⟩:∃r,G.rs[i]?=some r:=⟨G.rs[i]'(by rw[f.out];exact X),List.getElem?_eq_getElem _⟩
   obtain⟨b,o,xa,xc,F,d0,d1,d2,-⟩:=(H.out.rul.below H1.out).at E;simp only at F;subst F;have HU:=hid E;clear E
   obtain⟨y,P⟩:∃y,Hid (r.r.length=y):=⟨_,rfl⟩
   rw[P.out]at d1
   by_cases S:6<y
   ·have T:(6:Int)<(y:Int):=by omega
    have k:=hid (HQ.out.2 (.inr (.inr (.inr ⟨r,List.mem_of_getElem? HU.out,by rw[P.out];exact S⟩))))
    go_wp2;go_ret;exact⟨by rw[k.out];rfl,H1.out⟩
   ·have T:¬(6:Int)<(y:Int):=by omega
    have k:Hid (∀(j:Nat) (r:Ru),j<i+1->G.rs[j]?=some r->r.r.length<=6):=fun j v U g=>by
     rcases Nat.lt_or_ge j i with h | h
     ·exact J.out j v h g
     ·have:j=i:=by omega
      subst this;rw[HU.out]at g
      cases g
      rw[P.out];omega
    go_wp2
    go_round
    case rel=>exact⟨i+1,by omega,by simp,k⟩
    case measure=>simp[intOf];omega
  ·have C:¬(i:Int)<(d:Int):=by omega
   have k:Hid (q=true↔12<l\/30<d\/10<m):=by
    refine HQ.out.trans ?_;unfold vo;rw[z.out,f.out,HM.out]
    constructor
    ·rintro(h | h | h | ⟨r,E,h⟩)
     ·exact .inl h
     ·exact .inr (.inl h)
     ·exact .inr (.inr h)
     ·obtain⟨j,U⟩:=List.getElem?_of_mem E;have A:=(List.getElem?_eq_some_iff.1 U).1;rw[f.out]at A;have:=J.out j r (by omega) U;omega
    ·rintro(h | h | h)
     ·exact .inl h
     ·exact .inr (.inl h)
     ·exact .inr (.inr (.inl h))
   clear J
   by_cases A:12<l
   ·have Q:(12:Int)<(l:Int):=by omega
    have t:=hid (k.out.2 (.inl A));go_wp2_with fail;go_ret;exact⟨by rw[t.out];rfl,H1.out⟩
   ·have Q:¬(12:Int)<(l:Int):=by omega
    by_cases K:30<d
    ·have R:(30:Int)<(d:Int):=by omega
     have t:=hid (k.out.2 (.inr (.inl K)));go_wp2_with fail;go_ret;exact⟨by rw[t.out];rfl,H1.out⟩
    ·have R:¬(30:Int)<(d:Int):=by omega
     go_wp2_with fail;refine(a.out _ H1.out).mono ?_;rintro e W2 ⟨I,c,rfl,hB⟩;have HB:=hid hB
     have t:Hid (q=decide ((10:Int)<(m:Int))):=by
      by_cases h3:10<m
      ·rw[k.out.2 (.inr (.inr h3))];exact(decide_eq_true (by omega)).symm
      ·rw[decide_eq_false (by omega)];exact zj k.out (fun e=>by omega)
     go_wp2_with fail;go_ret;exact⟨by rw[t.out];rfl,HB.out⟩
theorem qkn(G:Gm)(h:Hd)(w:World)(hG:IsG w h G)(q:Bool)(hq:q=true↔NmP G):Calls Tryz.prog 22 #[gv h G] w fun e S=>e=.returned (.bool q)/\Below w.heap.size w S:=by
 have f4:=hG.small.nt;have f5:=hG.small.nr;have d5:=kv hG.rul;have HG:=hid hG;have HQ:=hid (hq.trans qmv);clear hG hq
 obtain⟨m,HM⟩:∃m,Hid ((lfs G.rs).length=m):=⟨_,rfl⟩
 have g5:m<=200:=by have:=vu G.rs;have:=HM.out;omega
 have N:Hid (∀V,Below w.heap.size w V->Calls Tryz.prog 23 #[gv h G] V fun e S=>∃H c,e=.returned (.slice H m c)/\Row S 1 H m c (strC (lfs G.rs))/\Below V.heap.size V S):=fun V hV=>by
  have:=qcc G h V (HG.out.below hV);rw[HM.out]at this;exact this.mono (fun e S ⟨H,c,he,ho,hb⟩=>⟨H,c,he,Row.of_own ho,hb⟩)
 have a8:Hid (∀(V:World) (H:Option Addr) (c:Nat) (x:ByteArray),Row V 1 H m c (strC (lfs G.rs))->Calls Tryz.prog 24 #[.slice H m c,.string x] V fun e S=>e=.returned (.int .i64 (idxI (zh (lfs G.rs) x)))/\S=V):=fun V H c x hr=>by
  have:=qa4 (lfs G.rs) H c x V (by rw[HM.out];exact hr) (by rw[HM.out];omega)
  rw[HM.out]at this;exact this
 have R:Hid (∀(V:World) (x:ByteArray),Below w.heap.size w V->Calls Tryz.prog 40 #[gv h G,.string x] V fun e S=>e=.returned (.int .i64 (idxI (zh (tkG G) x)))/\Below V.heap.size V S):=fun V x hV=>qgx G h V (HG.out.below hV) x
 have a1:Hid (∀(l:List ByteArray) (x:ByteArray),0<=idxI (zh l x)↔x∈l):=fun l x=>(qa5 _).trans ve
 obtain⟨ta,tc,ra,rc⟩:=h;unfold gv at N R ⊢;simp only at d5 N R ⊢
 have f2:G.ts.length<=tc/\tc<=9223372036854775807:=by have L:=HG.out.tok.le;have h2:=HG.out.tok.max;simp only at L h2;unfold maxLen at h2;omega
 have hv:Below w.heap.size w (w.alloc (.cells #[.slice ta G.ts.length tc,.string G.s,.int .i64 G.e,.slice ra G.rs.length rc] 25)):=qb _ _;have C:(w.alloc (.cells #[.slice ta G.ts.length tc,.string G.s,.int .i64 G.e,.slice ra G.rs.length rc] 25)).heap[w.heap.size]?=some (.cells #[.slice ta G.ts.length tc,.string G.s,.int .i64 G.e,.slice ra G.rs.length rc] 25 (0,0)):=heap_alloc_new _ _
 obtain⟨Y,b0⟩:∃Y,Hid (G.ts.length=Y):=⟨_,rfl⟩
 obtain⟨E,P⟩:∃E,Hid (G.rs.length=E):=⟨_,rfl⟩
 rw[b0.out]at f4 f2 hv C N R ⊢;rw[P.out]at f5 d5 hv C N R ⊢;go_enter Tryz.func22,Tryz.ntmps22
 go_upto_region 1 with fail
 generalize w.alloc (.cells #[.slice ta Y tc,.string G.s,.int .i64 G.e,.slice ra E rc] 25)=W1 at hv C ⊢
 obtain⟨gb,c3⟩:∃gb,Hid (gb=w.heap.size):=⟨_,rfl⟩
 rw[<-c3.out]at C ⊢
 have a:Hid (∀V:World,Below W1.heap.size W1 V->Below w.heap.size w V/\V.cell? ⟨gb,0,none⟩=some (.slice ta Y tc)/\V.cell? ⟨gb,1,none⟩=some (.string G.s)/\V.cell? ⟨gb,2,none⟩=some (.int .i64 G.e)/\V.cell? ⟨gb,3,none⟩=some (.slice ra E rc)):=fun V hV=>⟨qd hv hV,box4 (qf hV C)⟩
 obtain⟨p0,p1,p2,p3⟩:=box4 C;have H1:=hid hv;clear C hv c3;go_wp2_with fail;refine(N.out _ H1.out).mono ?_;rintro e W2 ⟨H,c,rfl,g,c8⟩;have Z:=hid2 c8 g;have g6:=zk g;clear p0 p1 p2 p3 N H1 c8 g;obtain⟨-,p0,p1,p2,p3⟩:=a.out W2 Z.out.1;go_wp2_with fail
 go_loopg [4] Y (fun kx s4 wr=>∃k:Nat,s4=.int .i64 k/\k<=Y/\Y - k<=kx/\Hid (wr=W2/\∀(i:Nat) (t:Tk),i<k->G.ts[i]?=some t->t.n ∉ lfs G.rs))
 case atStart=>exact⟨0,rfl,Nat.zero_le _,by omega,(⟨rfl,fun i r M=>absurd M (Nat.not_lt_zero _)⟩:W2=W2/\∀(i:Nat) (t:Tk),i<0->G.ts[i]?=some t->t.n ∉ lfs G.rs)⟩
 case round =>
  obtain⟨k,rfl,hk,hg,J⟩:=hrel;obtain⟨f6,hJ⟩:=J.out;subst f6;have HJ:=hid hJ;clear J hJ
  by_cases a5:k<Y
  ·have a4:(k:Int)<(Y:Int):=by omega
   obtain⟨t,ht⟩:∃t,G.ts[k]?=some t:=⟨G.ts[k]'(by rw[b0.out];exact a5),List.getElem?_eq_getElem _⟩
   obtain⟨b,o,d8,d0,-,-⟩:=jd (HG.out.tok.below (a.out wr Z.out.1).1) ht;simp only at d8;subst d8;have HT:=hid ht;clear ht;have v:=a8.out wr H c t.n Z.out.2;have HZ:=a1.out (lfs G.rs) t.n;generalize idxI (zh (lfs G.rs) t.n)=z at v HZ;have c5:=hid v;have c6:=hid HZ;clear v HZ;go_wp2_with fail;refine c5.out.mono ?_;rintro e wq ⟨rfl,rfl⟩
   by_cases U:0<=z
   ·have f:=hid (zj HQ.out (fun e=>e.2.1 ⟨t.n,by unfold tkG;exact List.mem_map.2 ⟨t,List.mem_of_getElem? HT.out,rfl⟩,c6.out.1 U⟩))
    go_wp2_with fail;go_ret;exact⟨by rw[f.out];rfl,(a.out _ Z.out.1).1⟩
   ·have f:Hid (∀(i:Nat) (t:Tk),i<k+1->G.ts[i]?=some t->t.n ∉ lfs G.rs):=fun i u M hu=>by
     rcases Nat.lt_or_ge i k with L | L
     ·exact HJ.out i u L hu
     ·have:i=k:=by omega
      subst this;rw[HT.out]at hu
      cases hu
      exact fun e=>U (c6.out.2 e)
    go_wp2_with fail;go_roundg (Y - (k+1))
    case measure=>omega
    case rel=>exact⟨k+1,by simp,by omega,Nat.le_refl _,(⟨rfl,f.out⟩:wq=wq/\∀(i:Nat) (t:Tk),i<k+1->G.ts[i]?=some t->t.n ∉ lfs G.rs)⟩
  ·have a4:¬(k:Int)<(Y:Int):=by omega
   have HT:Hid (¬∃x∈tkG G,x∈lfs G.rs):=by
    rintro⟨x,C,hl⟩;unfold tkG at C;obtain⟨t,ht,rfl⟩:=List.mem_map.1 C;obtain⟨i,M⟩:=List.getElem?_of_mem ht;exact HJ.out i t (by have:=(List.getElem?_eq_some_iff.1 M).1;rw[b0.out]at this;omega) M hl
   clear HJ hk hg a5 p0 p1 p2 p3
   obtain⟨T,g2⟩:∃T,T=wr:=⟨_,rfl⟩
   subst wr;obtain⟨-,p0,p1,p2,p3⟩:=a.out T Z.out.1;go_wp2_with fail;clear p0 p1 p2 p3
   go_loopg [5] E (fun kx s5 wr=>∃k:Nat,s5=.int .i64 k/\k<=E/\E - k<=kx/\Hid (Below T.heap.size T wr/\∀(i:Nat) (r:Ru),i<k->G.rs[i]?=some r->NmR G r))
   case atStart=>exact⟨0,rfl,Nat.zero_le _,by omega,(⟨Below.refl _ _,fun i r M=>absurd M (Nat.not_lt_zero _)⟩:Below T.heap.size T T/\∀(i:Nat) (r:Ru),i<0->G.rs[i]?=some r->NmR G r)⟩
   case round =>
    obtain⟨k,rfl,hk,hg,J⟩:=hrel;obtain⟨-,p0,p1,p2,p3⟩:=a.out wr (qd Z.out.1 J.out.1)
    by_cases a5:k<E
    ·have a4:(k:Int)<(E:Int):=by omega
     obtain⟨r,hr⟩:∃r,G.rs[k]?=some r:=⟨G.rs[k]'(by rw[P.out];exact a5),List.getElem?_eq_getElem _⟩
     obtain⟨bb,o,ya,yc,d7,d0,d1,d2,g⟩:=(HG.out.rul.below (a.out wr (qd Z.out.1 J.out.1)).1).at hr;simp only at d7;subst d7;have f3:=(HG.out.small.rl r (List.mem_of_getElem? hr)).2.2.1;have f8:=zk g;have hv:Below wr.heap.size wr (wr.alloc (.cells #[.string r.l,.slice ya r.r.length yc,.string r.p] 42)):=qb _ _
     have I:Hid (Below T.heap.size T (wr.alloc (.cells #[.string r.l,.slice ya r.r.length yc,.string r.p] 42))/\(wr.alloc (.cells #[.string r.l,.slice ya r.r.length yc,.string r.p] 42)).heap[wr.heap.size]?=some (.cells #[.string r.l,.slice ya r.r.length yc,.string r.p] 42 (0,0))/\Row (wr.alloc (.cells #[.string r.l,.slice ya r.r.length yc,.string r.p] 42)) 1 ya r.r.length yc (strC r.r)/\G.rs[k]?=some r/\∀(i:Nat) (r:Ru),i<k->G.rs[i]?=some r->NmR G r):=⟨qd J.out.1 hv,heap_alloc_new _ _,g.below hv,hr,J.out.2⟩
     clear J hr hv g
     obtain⟨X,a9⟩:∃X,Hid (r.r.length=X):=⟨_,rfl⟩
     rw[a9.out]at I d1 f3 f8
     go_upto_region 11 with fail
     obtain⟨b6,b7⟩:∃b6,Hid (b6=wr.heap.size):=⟨_,rfl⟩
     rw[<-b7.out]at I ⊢;generalize wr.alloc (.cells #[.string r.l,.slice ya X yc,.string r.p] 42)=V at I ⊢;clear b7 d0 d1 d2 p0 p1 p2 p3
     have q1:V.cell? ⟨b6,1,none⟩=some (.slice ya X yc):=by rw[qe I.out.2.1];rfl
     clear q1;go_wp2_with fail
     go_loopg [7] X (fun kx s7 wr=>∃D:Nat,s7=.int .i64 D/\D<=X/\X - D<=kx/\Hid (Below V.heap.size V wr/\∀(i:Nat) (x:ByteArray),i<D->r.r[i]?=some x->x∈tkG G\/x∈lfs G.rs))
     case atStart=>exact⟨0,rfl,Nat.zero_le _,by omega,(⟨Below.refl _ _,fun i x M=>absurd M (Nat.not_lt_zero _)⟩:Below V.heap.size V V/\∀(i:Nat) (x:ByteArray),i<0->r.r[i]?=some x->x∈tkG G\/x∈lfs G.rs)⟩
     case round =>
      obtain⟨D,rfl,g4,g3,K⟩:=hrel
      obtain⟨A,g0⟩:∃A,A=wr:=⟨_,rfl⟩
      subst wr
      have q1:A.cell? ⟨b6,1,none⟩=some (.slice ya X yc):=by rw[qe (qf K.out.1 I.out.2.1)];rfl
      have q2:A.cell? ⟨b6,2,none⟩=some (.string r.p):=by rw[qe (qf K.out.1 I.out.2.1)];rfl
      have d:=hid2 (qd Z.out.1 (qd I.out.1 K.out.1)) (Z.out.2.below (qd I.out.1 K.out.1));obtain⟨-,p0,p1,p2,p3⟩:=a.out A d.out.1
      by_cases d4:D<X
      ·have b2:(D:Int)<(X:Int):=by omega
       obtain⟨x,C⟩:∃x,r.r[D]?=some x:=⟨r.r[D]'(by rw[a9.out];exact d4),List.getElem?_eq_getElem _⟩
       obtain⟨b9,o9,f7,q0⟩:=jy (I.out.2.2.1.below K.out.1) C;subst f7;have HX:=hid C;clear C;have v:=a8.out;have Q:=R.out;have B:=a1.out (lfs G.rs) x;have F:=a1.out (tkG G) x
       obtain⟨z1,b3⟩:∃z1,idxI (zh (lfs G.rs) x)=z1:=⟨_,rfl⟩
       obtain⟨z2,b4⟩:∃z2,idxI (zh (tkG G) x)=z2:=⟨_,rfl⟩
       have O:Hid (∀V:World,Row V 1 H m c (strC (lfs G.rs))->Calls Tryz.prog 24 #[.slice H m c,.string x] V fun e S=>e=.returned (.int .i64 z1)/\S=V):=fun V hV=>by
        have:=v V H c x hV;rw[b3]at this;exact this
       have a2:Hid (∀V:World,Below w.heap.size w V->Calls Tryz.prog 40 #[.agg #[.slice ta Y tc,.string G.s,.int .i64 G.e,.slice (some ⟨bb,o,none⟩) E rc],.string x] V fun e S=>e=.returned (.int .i64 z2)/\Below V.heap.size V S):=fun V hV=>by
        have:=Q V x hV;rw[b4]at this;exact this
       rw[b3]at B;rw[b4]at F;have HZ:=hid2 B F;clear v Q B F b3 b4;obtain⟨bx,d3⟩:=zv (¬(x∈tkG G\/x∈lfs G.rs));have a0:=hid d3;clear d3
       go_upto_region 14 with fail
       go_cut [7,62] from 38 to 62 (fun s7 s62 wd=>s7=.int .i64 (D:Int)/\s62=.bool bx/\Hid (Below A.heap.size A wd))
       case first =>
        by_cases U:z1<0
        ·by_cases hy:z2<0
         ·have f:Hid (bx=true):=a0.out.2 (fun e=>by
           rcases e with e | e
           ·have:=HZ.out.2.2 e;omega
           ·have:=HZ.out.1.2 e;omega)
          go_region_with(first | (go_at_call 24;refine(O.out _ (d.out.2.below (qo _))).mono ?_;rintro e V4 ⟨rfl,rfl⟩) | (go_at_call 40;refine(a2.out _ (a.out _ (qd d.out.1 (qo _))).1).mono ?_;rintro e V5 ⟨rfl,a3⟩))
          all_goals
           have HE:Hid (Below A.heap.size A _):=qd (qo A) a3;clear a3;go_wp2_with fail;go_meet;exact⟨rfl,by rw[f.out],HE⟩
         ·have f:=hid (zj a0.out (fun e=>e (.inl (HZ.out.2.1 (by omega)))))
          go_region_with(first | (go_at_call 24;refine(O.out _ (d.out.2.below (qo _))).mono ?_;rintro e V4 ⟨rfl,rfl⟩) | (go_at_call 40;refine(a2.out _ (a.out _ (qd d.out.1 (qo _))).1).mono ?_;rintro e V5 ⟨rfl,a3⟩))
          all_goals
           have HE:Hid (Below A.heap.size A _):=qd (qo A) a3;clear a3;go_wp2_with fail;go_meet;exact⟨rfl,by rw[f.out,decide_eq_false (by omega)],HE⟩
        ·have f:=hid (zj a0.out (fun e=>e (.inr (HZ.out.1.1 (by omega)))));have hd:=decide_eq_false U;clear U
         have HD:Hid (∀q,Below A.heap.size A (A.drewN q)):=fun q=>qa2 (Below.refl _ _) q
         have mx:=qaf;go_quiet (first | (go_at_call 24;exact Calls.quiet_of_same (O.out _ (d.out.2.below (HD.out _)))))
         go_wp2_with fail;go_meet;exact⟨rfl,by rw[f.out],HD.out _⟩
       case rest =>
        obtain⟨rfl,rfl,HE⟩:=hcut
        obtain⟨V5,g1⟩:∃V5,V5=wc:=⟨_,rfl⟩
        subst wc;clear q0 q1 q2 p0 p1 p2 p3 O a2
        cases bx
        ·have f:Hid (Below V.heap.size V V5/\∀(i:Nat) (x:ByteArray),i<D+1->r.r[i]?=some x->x∈tkG G\/x∈lfs G.rs):=⟨qd K.out.1 HE.out,fun i y M hy=>by
          rcases Nat.lt_or_ge i D with L | L
          ·exact K.out.2 i y L hy
          ·have:i=D:=by omega
           subst this;rw[HX.out]at hy
           cases hy
           rcases Classical.em (x∈tkG G\/x∈lfs G.rs) with h2 | h2
           ·exact h2
           ·have:=a0.out.2 h2;cases this⟩
         go_wp2_with fail;go_roundg (X - (D+1))
         case measure=>omega
         case rel=>exact⟨D+1,by simp,by omega,Nat.le_refl _,f⟩
        ·have f:=hid (zj HQ.out (fun e=>(a0.out.1 rfl) ((e.2.2.1 r (List.mem_of_getElem? I.out.2.2.2.1)).2 x (List.mem_of_getElem? HX.out))));go_wp2_with fail;go_ret;exact⟨by rw[f.out];rfl,(a.out _ (qd d.out.1 HE.out)).1⟩
      ·have b2:¬(D:Int)<(X:Int):=by omega
       have f0:Hid (∀x∈r.r,x∈tkG G\/x∈lfs G.rs):=fun x C=>by
        obtain⟨j,hj⟩:=List.getElem?_of_mem C;exact K.out.2 j x (by have:=(List.getElem?_eq_some_iff.1 hj).1;rw[a9.out]at this;omega) hj
       have f1:=hid (qd I.out.1 K.out.1);clear K
       have c7:(r.p=e0\/r.p∈tkG G)->∀V4,Below A.heap.size A V4->(Below T.heap.size T V4/\∀(i:Nat) (r:Ru),i<k+1->G.rs[i]?=some r->NmR G r):=fun hp V4 hB=>by
        refine⟨qd f1.out hB,fun i u M hu=>?_⟩
        rcases Nat.lt_or_ge i k with L | L
        ·exact I.out.2.2.2.2 i u L hu
        ·have:i=k:=by omega
         subst this;rw[I.out.2.2.2.1]at hu
         cases hu
         exact⟨hp,f0.out⟩
       have b8:=hid c7;clear c7
       by_cases hp:r.p=e0
       ·have b1:=(zy r.p).2 hp;have f:=hid (b8.out (.inl hp) A (Below.refl _ _));clear hp;go_wp2_with fail;go_roundg (E - (k+1))
        case measure=>omega
        case rel=>exact⟨k+1,by simp,by omega,Nat.le_refl _,f⟩
       ·have b1:(r.p.toList == [])=false:=by
         cases hq:(r.p.toList == [])
         ·rfl
         ·exact absurd ((zy r.p).1 hq) hp
        have Q:=R.out A r.p (a.out _ d.out.1).1;have F:=a1.out (tkG G) r.p;generalize idxI (zh (tkG G) r.p)=z2 at Q F;have a2:=hid Q;have HZ:=hid F;have d9:=hid hp;clear Q F hp;go_wp2_with fail;refine a2.out.mono ?_;rintro e V4 ⟨rfl,c9⟩;have b5:=hid c9;clear c9 q1 q2 p0 p1 p2 p3
        by_cases U:0<=z2
        ·have f:=hid (b8.out (.inr (HZ.out.1 U)) V4 b5.out)
         have f9:¬z2<0:=by omega
         go_wp2_with fail;go_roundg (E - (k+1))
         case measure=>omega
         case rel=>exact⟨k+1,by simp,by omega,Nat.le_refl _,f⟩
        ·have f:Hid (q=false):=zj HQ.out (fun e=>by
          rcases (e.2.2.1 r (List.mem_of_getElem? I.out.2.2.2.1)).1 with L | L
          ·exact d9.out L
          ·exact U (HZ.out.2 L))
         have f9:z2<0:=by omega
         go_wp2_with fail;go_ret;exact⟨by rw[f.out];rfl,(a.out _ (qd d.out.1 b5.out)).1⟩
    ·have a4:¬(k:Int)<(E:Int):=by omega
     have a7:Hid (∀r∈G.rs,NmR G r):=fun r hr=>by
      obtain⟨i,M⟩:=List.getElem?_of_mem hr;exact J.out.2 i r (by have:=(List.getElem?_eq_some_iff.1 M).1;rw[P.out]at this;omega) M
     have d:=hid2 (qd Z.out.1 J.out.1) (Z.out.2.below J.out.1);clear J
     by_cases a6:E=0
     ·have d6:¬(0:Int)<(E:Int):=by omega
      have f:=hid (zj HQ.out (fun e=>e.1 (List.eq_nil_of_length_eq_zero (by rw[P.out];exact a6))))
      clear a6;go_wp2_with fail;go_ret;exact⟨by rw[f.out];rfl,(a.out _ d.out.1).1⟩
     ·have d6:(0:Int)<(E:Int):=by omega
      have c4:Hid (G.rs≠[]):=fun e=>a6 (by rw[<-P.out,e];rfl)
      clear a6
      by_cases hs:G.s=e0
      ·have b1:=(zy G.s).2 hs
       have f:Hid (q=true):=HQ.out.2 ⟨c4.out,HT.out,a7.out,by
        unfold kq;rw[if_pos hs]
        obtain⟨r,hr⟩:∃r,G.rs[0]?=some r:=⟨G.rs[0]'(by rw[P.out];omega),List.getElem?_eq_getElem _⟩
        rw[hr]
        exact qc6.2 ⟨r,List.mem_of_getElem? hr,rfl⟩⟩
       clear hs;go_wp2_with fail;go_ret;exact⟨by rw[f.out];rfl,(a.out _ d.out.1).1⟩
      ·have b1:(G.s.toList == [])=false:=by
        cases hq:(G.s.toList == [])
        ·rfl
        ·exact absurd ((zy G.s).1 hq) hs
       have v:=a8.out wr H c G.s d.out.2;have B:=a1.out (lfs G.rs) G.s;generalize idxI (zh (lfs G.rs) G.s)=z1 at v B;have O:=hid v
       have HE:Hid (q=true↔0<=z1):=by
        refine HQ.out.trans ?_
        have e:kq G=G.s:=by unfold kq;rw[if_neg hs]
        rw[e]
        constructor
        ·intro h;exact B.2 h.2.2.2
        ·intro h;exact⟨c4.out,HT.out,a7.out,B.1 h⟩
       clear v B hs;go_wp2_with fail;refine O.out.mono ?_;rintro e V4 ⟨rfl,rfl⟩
       by_cases U:0<=z1
       ·have f:=hid (HE.out.2 U);go_wp2_with fail;go_ret;exact⟨by rw[f.out];simp,(a.out _ d.out.1).1⟩
       ·have f:=hid (zj HE.out U);go_wp2_with fail;go_ret;exact⟨by rw[f.out];simp[U],(a.out _ d.out.1).1⟩
structure RP (w W:World) (b1 b2 b3 b4 b5:Nat) (c1 c2 c3:Array Value) (l:Int) (ys:List Nat) (xa:Option Addr) (xc:Nat):Prop where
 x1:W.heap[b1]?=some (.cells c1 25 (0,0))
 o:RO w W b2 b3 b4 b5 c2 c3 l ys xa xc
theorem RP.step{w W a:World}{b c d f g:Nat}{c1 c2 h:Array Value}{l:Int}{m:List Nat}{j:Option Addr}{k:Nat}(s:RP w W b c d f g c1 c2 h l m j k)(i:Below W.heap.size W a):RP w a b c d f g c1 c2 h l m j k :=
 ⟨qf i s.x1,s.o.step i⟩
theorem RP.add{w W:World}{q r v B a:Nat}{c1 c2 C:Array Value}{l:Int}{j:List Nat}{z:Option Addr}{A:Nat}(t:RP w W q r v B a c1 c2 C l j z A)(y:Nat)(O:j.length<1000):
  ∃g c f,(Builtin.append_ #[28,28] 28 #[.slice z j.length A,.slice (some ⟨W.heap.size,0,none⟩) 1 1]).run Tryz.prog (W.alloc (.cells #[.int .i64 (y:Int)] 3))=.ok (.slice (some ⟨g,0,none⟩) (j.length+1) c) f /\
   f.cell? ⟨a,1,none⟩=some (.slice z j.length A)/\f.frozen? ⟨a,1,none⟩=false/\RP w (f.setCell ⟨a,1,none⟩ (.slice (some ⟨g,0,none⟩) (j.length+1) c)) q r v B a c1 c2 C l (j++[y]) (some ⟨g,0,none⟩) c:=by
 have s:=t.o;obtain⟨g,c,f,L,E,D,N⟩:=xy (us:=[.int .i64 (y:Int)]) u29 i3 rfl (by decide) (by decide) rfl (fun u F=>by rw[List.mem_singleton]at F;subst F;rfl) s.own s.bel.size (by omega)
 have n:=((Kept.refl _ W).alloc _).trans D (fun k _ e=>ze e)
 have m:∀{b T:Nat} {d:Array Value},W.heap[b]?=some (.cells d T (0,0))->T≠3->f.heap[b]?=some (.cells d T (0,0)):=fun x J=>by
  rw[n.block _ (Array.getElem?_eq_some_iff.1 x).1 (fun e=>qu ⟨_,x⟩ (qw s.own e).2.2 J rfl)];exact x
 have G:=m t.x1 (by decide);have H:=m s.x2 (by decide);have I:=m s.x3 (by decide);have M:=m s.x4 (by decide);have h:=m s.x5 (by decide);refine⟨g,c,f,L,by rw[qe h];rfl,qj h 1,?_,?_,?_,?_,?_,?_,?_,s.ne,s.n5⟩
 ·exact(Below.heap_setCell _ _ _ _ (show q≠a from qu ⟨_,G⟩ ⟨_,h⟩ (by decide))).trans G
 ·exact(Below.heap_setCell _ _ _ _ (show r≠a from qu ⟨_,H⟩ ⟨_,h⟩ (by decide))).trans H
 ·exact(Below.heap_setCell _ _ _ _ (show v≠a from qu ⟨_,I⟩ ⟨_,h⟩ (by decide))).trans I
 ·exact(Below.heap_setCell _ _ _ _ s.ne).trans M
 ·rw[setCell_eq_setRow f a 1 _ 56 (0,0) _ h,setRow_heap _ _ _ _ 56 _ h,List.length_append];rfl
 ·rw[jk,List.length_append]
  exact qh E (fun i K=>by
   cases K
   exact Below.heap_setCell _ _ _ _ (qu (za E rfl) ⟨_,h⟩ (by decide)))
 ·refine(s.bel.trans (n.below s.bel.size (fun k D e=>?_))).setCell (p:=⟨a,1,none⟩) s.n5 _;have:=(qw s.own e).1;omega
theorem qrb(w:World)(a b c d:Obj):Below w.heap.size w ((((w.alloc a).alloc b).alloc c).alloc d)/\((((w.alloc a).alloc b).alloc c).alloc d).heap[w.heap.size]?=some a/\((((w.alloc a).alloc b).alloc c).alloc d).heap[w.heap.size+1]?=some b/\((((w.alloc a).alloc b).alloc c).alloc d).heap[w.heap.size+1+1]?=some c/\((((w.alloc a).alloc b).alloc c).alloc d).heap[w.heap.size+1+1+1]?=some d/\((((w.alloc a).alloc b).alloc c).alloc d).heap.size=w.heap.size+1+1+1+1:=by
 obtain⟨i,j,k,l,g⟩:=qif w a b c;have f:=qb ((((w.alloc a).alloc b).alloc c)) d;have h:=heap_alloc_new (((w.alloc a).alloc b).alloc c) d;rw[g]at h;exact⟨qd i f,qf f j,qf f k,qf f l,h,by rw[qz,g]⟩
theorem ql8(G:Gm)(hd:Hd)(S:Sp)(h:SHd)(w:World)(hG:IsG w hd G)(c7:Row w 1 h.na S.nm.length h.nc (strC S.nm))(g4:S.tk=G.ts.length)(c6:S.nm=nmG G)(hm:MayP G)(hn:NmP G)(r:Ru)(hr:r∈G.rs)(Z:Option Addr)(L:Nat)(a3:Row w 1 Z r.r.length L (strC r.r)):
  Calls Tryz.prog 25 #[gv hd G,.agg (sC h S),.agg #[.string r.l,.slice Z r.r.length L,.string r.p]] w fun e Y=>∃f i,e=.returned (.agg #[.int .i64 (ruG G r).l,.slice f (ruG G r).r.length i,.int .i64 (ruG G r).lv,.int .i64 (ruG G r).a])/\Y.ownsRow w.heap.size 3 1 (.slice f (ruG G r).r.length i) (ruG G r).r.length (natC (ruG G r).r)/\Below w.heap.size w Y:=by
 have h8:=hG.small.nt;have i0:=hG.small.nr;have h7:=(hm.rl r hr).2.1;have i2:=zk a3;have h6:=zk c7
 have b6:(nmG G).length<=400:=by rw[jt];have:=vu G.rs;omega
 have HG:=hid5 hG hm hn hr a3
 have a6:Hid (∀(V:World) (s:ByteArray),Below w.heap.size w V->Calls Tryz.prog 24 #[.slice h.na S.nm.length h.nc,.string s] V fun e Y=>e=.returned (.int .i64 (idxI (zh (nmG G) s)))/\Y=V):=fun V s hV=>by
  have X:=c7.below hV;rw[c6]at X ⊢;exact qa4 (nmG G) h.na h.nc s V X (by omega)
 have H:Hid (∀(V:World),Below w.heap.size w V->Calls Tryz.prog 40 #[gv hd G,.string r.p] V fun e Y=>e=.returned (.int .i64 (idxI (zh (tkG G) r.p)))/\Below V.heap.size V Y):=fun V hV=>qgx G hd V (hG.below hV) r.p
 have g2:S.nm.length<=400:=by rw[c6];exact b6
 clear hG hm hn hr a3 c7 c6 b6;obtain⟨ta,O,ra,rc⟩:=hd;unfold gv at H ⊢;simp only at H ⊢
 have h5:G.ts.length<=O/\O<=9223372036854775807:=by have X:=HG.out.1.tok.le;have h2:=HG.out.1.tok.max;simp only at X h2;unfold maxLen at h2;omega
 have A:=qrb w (.cells #[.slice ta G.ts.length O,.string G.s,.int .i64 G.e,.slice ra G.rs.length rc] 25) (.cells (sC h S) 31) (.cells #[.string r.l,.slice Z r.r.length L,.string r.p] 42) (.cells #[.int .i64 0,.slice none 0 0,.int .i64 0,.int .i64 0] 56)
 obtain⟨n,a1⟩:∃n,Hid (G.ts.length=n):=⟨_,rfl⟩
 obtain⟨rn,f5⟩:∃rn,Hid (G.rs.length=rn):=⟨_,rfl⟩
 obtain⟨N,h0⟩:∃N,Hid (S.nm.length=N):=⟨_,rfl⟩
 obtain⟨t,a7⟩:∃t,Hid (r.r.length=t):=⟨_,rfl⟩
 unfold sC at A ⊢;rw[g4]at A ⊢;rw[a1.out]at h8 h5 H A ⊢;rw[f5.out]at i0 H A ⊢;rw[h0.out]at a6 h6 g2 A ⊢;rw[a7.out]at h7 i2 A ⊢
 generalize S.lv.length=D at *
 generalize S.az.length=C at *
 generalize S.rs.length=sn at *
 clear g4;go_enter Tryz.func25,Tryz.ntmps25
 go_upto_region 1 with fail
 obtain⟨W1,f9⟩:∃W1,W1=((((w.alloc (.cells #[.slice ta n O,.string G.s,.int .i64 G.e,.slice ra rn rc] 25)).alloc (.cells #[.int .i64 (n:Int),.int .i64 (S.nt:Int),.int .i64 (S.st:Int),.int .i64 S.ex,.slice h.na N h.nc,.slice h.la D h.lc,.slice h.aa C h.ac,.slice h.ra sn h.rc] 31)).alloc (.cells #[.string r.l,.slice Z t L,.string r.p] 42)).alloc (.cells #[.int .i64 0,.slice none 0 0,.int .i64 0,.int .i64 0] 56)):=⟨_,rfl⟩
 rw[<-f9]at A ⊢;clear f9
 obtain⟨I,a5⟩:∃I,Hid (I=w.heap.size):=⟨_,rfl⟩
 rw[<-a5.out]at A ⊢;obtain⟨hB,g5,c9,b0,a4,g3⟩:=A
 have P:Hid (w.heap.size<=I+1+1+1/\W1.heap.size=I+1+1+1+1):=⟨by rw[a5.out];omega,g3⟩
 clear g3;rw[a5.out]at hB
 obtain⟨M,d4⟩:∃M,Hid (M=I+1):=⟨_,rfl⟩
 rw[<-d4.out]at c9 b0 a4 P ⊢
 obtain⟨F,d3⟩:∃F,Hid (F=M+1):=⟨_,rfl⟩
 rw[<-d3.out]at b0 a4 P ⊢
 obtain⟨d,d5⟩:∃d,Hid (d=F+1):=⟨_,rfl⟩
 rw[<-d5.out]at a4 P ⊢;have z:=hid5 hB g5 b0 c9 a4;clear hB g5 b0 c9 a4 a5 d3 d4 d5
 have c4:W1.cell? ⟨M,4,none⟩=some (.slice h.na N h.nc):=by rw[qe z.out.2.2.2.1];rfl
 have c0:W1.cell? ⟨F,0,none⟩=some (.string r.l):=by rw[qe z.out.2.2.1];rfl
 have d9:Hid (idxI (zh (nmG G) r.l)=(ruG G r).l):=by
  have hx:=qby (G:=G) (.inr (qc6.2 ⟨r,HG.out.2.2.2.1,rfl⟩));show _=_;rw[qc7 hx];rfl
 go_wp2_with fail;refine(a6.out _ _ z.out.1).mono ?_;rintro e V ⟨rfl,rfl⟩
 obtain⟨l,HL⟩:∃l,Hid (idxI (zh (nmG G) r.l)=l):=⟨_,rfl⟩
 rw[HL.out]at d9 ⊢;have hv:Below V.heap.size V (V.alloc (.cells #[.int .i64 l,.slice none 0 0,.int .i64 0,.int .i64 0] 56)):=qb _ _
 have HO:Hid (RP w (V.alloc (.cells #[.int .i64 l,.slice none 0 0,.int .i64 0,.int .i64 0] 56)) I F M d V.heap.size #[.slice ta n O,.string G.s,.int .i64 G.e,.slice ra rn rc] #[.string r.l,.slice Z t L,.string r.p] #[.int .i64 (n:Int),.int .i64 (S.nt:Int),.int .i64 (S.st:Int),.int .i64 S.ex,.slice h.na N h.nc,.slice h.la D h.lc,.slice h.aa C h.ac,.slice h.ra sn h.rc] l [] none 0) :=
  ⟨qf hv z.out.2.1,qf hv z.out.2.2.1,qf hv z.out.2.2.2.1,qf hv z.out.2.2.2.2,heap_alloc_new _ _,World.ownsRow_nil _ _ _ _,qd z.out.1 hv,by rw[P.out.2];omega,z.out.1.size⟩
 clear hv c4 c0
 go_upto_region 2 with fail
 generalize V.alloc (.cells #[.int .i64 l,.slice none 0 0,.int .i64 0,.int .i64 0] 56)=Q at HO ⊢
 obtain⟨m,d7⟩:∃m,Hid (m=V.heap.size):=⟨_,rfl⟩
 rw[<-d7.out]at HO ⊢;have d6:=hid P.out.1;clear d7 z HL P
 have c1:Q.cell? ⟨F,1,none⟩=some (.slice Z t L):=by rw[qe HO.out.o.x2];rfl
 go_wp2_with fail;clear c1
 go_loopg [8,9] t (fun kx s8 s9 wr=>∃k:Nat,s8=.int .i64 (idxI (byL G (r.r.take k)))/\s9=.int .i64 k/\k<=t/\t - k<=kx/\Hid (∃f i,RP w wr I F M d m #[.slice ta n O,.string G.s,.int .i64 G.e,.slice ra rn rc] #[.string r.l,.slice Z t L,.string r.p] #[.int .i64 (n:Int),.int .i64 (S.nt:Int),.int .i64 (S.st:Int),.int .i64 S.ex,.slice h.na N h.nc,.slice h.la D h.lc,.slice h.aa C h.ac,.slice h.ra sn h.rc] l ((r.r.take k).map (ix (nmG G))) f i))
 case atStart=>exact⟨0,rfl,rfl,Nat.zero_le _,by omega,(⟨_,_,HO.out⟩:∃f i,RP w Q I F M d m #[.slice ta n O,.string G.s,.int .i64 G.e,.slice ra rn rc] #[.string r.l,.slice Z t L,.string r.p] #[.int .i64 (n:Int),.int .i64 (S.nt:Int),.int .i64 (S.st:Int),.int .i64 S.ex,.slice h.na N h.nc,.slice h.la D h.lc,.slice h.aa C h.ac,.slice h.ra sn h.rc] l ((r.r.take 0).map (ix (nmG G))) f i)⟩
 case round =>
  clear HO;obtain⟨k,rfl,rfl,hk,hg,J⟩:=hrel
  by_cases h4:k<t
  ·have g1:(k:Int)<(t:Int):=by omega
   obtain⟨f,i,s⟩:=J.out
   obtain⟨x,hx⟩:∃x,r.r[k]?=some x:=⟨r.r[k]'(by rw[a7.out];exact h4),List.getElem?_eq_getElem _⟩
   obtain⟨b,o,i1,q0⟩:=jy (HG.out.2.2.2.2.below s.o.bel) hx;subst i1;have d0:=qby (HG.out.2.2.1.rr r HG.out.2.2.2.1 x (List.mem_of_getElem? hx));have b8:=hid hx
   have c4:wr.cell? ⟨M,4,none⟩=some (.slice h.na N h.nc):=by rw[qe s.o.x3];rfl
   have c1:wr.cell? ⟨F,1,none⟩=some (.slice (some ⟨b,o,none⟩) t L):=by rw[qe s.o.x2];rfl
   have b7:Hid (Calls Tryz.prog 24 #[.slice h.na N h.nc,.string x] wr.drew fun e Y=>e=.returned (.int .i64 ((ix (nmG G) x:Nat):Int))/\Y=wr.drew):=by
    have:=a6.out wr.drew x (qd s.o.bel (qo _));rw[qc7 d0]at this;exact this
   obtain⟨y,HY⟩:∃y,Hid (ix (nmG G) x=y):=⟨_,rfl⟩
   rw[HY.out]at b7
   have k0:y<=1000:=by
    have:=qe1 d0;rw[HY.out,jt]at this;have:=vu G.rs;have:=a1.out;have:=f5.out;omega
   have B:=hid s;clear s J hx d0
   obtain⟨E,a0⟩:∃E,Hid (idxI (byL G (r.r.take k))=E):=⟨_,rfl⟩
   rw[a0.out]
   go_upto_region 6 with fail
   go_cut [8,9,10] from 17 to 42 (fun s8 s9 s10 wd=>s8=.int .i64 E/\s9=.int .i64 (k:Int)/\s10=.int .i64 (y:Int)/\Hid (Below wr.heap.size wr wd))
   case first =>
    have U:=hid (qo wr)
    go_region_with(first | (go_at_call 24;refine b7.out.mono ?_;rintro e V2 ⟨rfl,rfl⟩))
    all_goals
     go_wp2_with fail;go_meet;exact⟨rfl,rfl,rfl,U⟩
   case rest =>
    obtain⟨rfl,rfl,rfl,U⟩:=hcut
    obtain⟨V3,i6⟩:∃V3,V3=wc:=⟨_,rfl⟩
    subst wc;have s:=B.out.step U.out;clear c4 c1 q0 b7 B U
    have c5:((r.r.take k).map (ix (nmG G))).length=k:=by rw[List.length_map,List.length_take,a7.out];omega
    obtain⟨g,c,V1,c8,x1,f1,s1⟩:=s.add y (by omega)
    have c1:V3.cell? ⟨m,1,none⟩=some (.slice f k i):=by rw[qe s.o.x5,c5];rfl
    rw[c5]at c8 x1 s1
    have a8:Hid (RP w (V1.setCell ⟨m,1,none⟩ (.slice (some ⟨g,0,none⟩) (k+1) c)) I F M d m #[.slice ta n O,.string G.s,.int .i64 G.e,.slice ra rn rc] #[.string r.l,.slice (some ⟨b,o,none⟩) t L,.string r.p] #[.int .i64 (n:Int),.int .i64 (S.nt:Int),.int .i64 (S.st:Int),.int .i64 S.ex,.slice h.na N h.nc,.slice h.la D h.lc,.slice h.aa C h.ac,.slice h.ra sn h.rc] l ((r.r.take (k+1)).map (ix (nmG G))) (some ⟨g,0,none⟩) c):=by
     have e:(r.r.take (k+1)).map (ix (nmG G))=(r.r.take k).map (ix (nmG G))++[y]:=by rw[zw b8.out,List.map_append,<-HY.out];rfl
     rw[e];exact s1
    clear s s1 c5
    go_upto_region 8 with (at_builtin;refine Lib.wpList_append_run _ rfl _ _ _ _ rfl _ _ rfl rfl _ _ c8 ?_)
    generalize V1.setCell ⟨m,1,none⟩ (.slice (some ⟨g,0,none⟩) (k+1) c)=Q1 at a8 ⊢;clear c8 x1 f1 c1
    have z0:Q1.cell? ⟨M,0,none⟩=some (.int .i64 (n:Int)):=by rw[qe a8.out.o.x3];rfl
    have HF:Hid (∃f i,RP w Q1 I F M d m #[.slice ta n O,.string G.s,.int .i64 G.e,.slice ra rn rc] #[.string r.l,.slice (some ⟨b,o,none⟩) t L,.string r.p] #[.int .i64 (n:Int),.int .i64 (S.nt:Int),.int .i64 (S.st:Int),.int .i64 S.ex,.slice h.na N h.nc,.slice h.la D h.lc,.slice h.aa C h.ac,.slice h.ra sn h.rc] l ((r.r.take (k+1)).map (ix (nmG G))) f i):=⟨_,_,a8.out⟩
    clear a8
    by_cases g6:y<n
    ·have g7:(y:Int)<(n:Int):=by omega
     have U:Hid (byL G (r.r.take (k+1))=some y):=by
      show _=_;rw[zw b8.out,qdp];unfold byS;rw[HY.out,if_pos (by rw[a1.out];exact g6)]
     go_wp2_with fail;go_roundg (t - (k+1))
     case measure=>omega
     case rel=>exact⟨k+1,by rw[U.out];rfl,by simp,by omega,Nat.le_refl _,HF⟩
    ·have g7:¬(y:Int)<(n:Int):=by omega
     have U:Hid (idxI (byL G (r.r.take (k+1)))=E):=by
      show _=_;rw[zw b8.out,qdp];unfold byS;rw[HY.out,if_neg (by rw[a1.out];exact g6)]
      exact a0.out
     go_wp2_with fail;go_roundg (t - (k+1))
     case measure=>omega
     case rel=>exact⟨k+1,by rw[U.out],by simp,by omega,Nat.le_refl _,HF⟩
  ·have g1:¬(k:Int)<(t:Int):=by omega
   obtain⟨w5,i7⟩:∃w5,w5=wr:=⟨_,rfl⟩
   subst wr;have eT:r.r.take k=r.r:=List.take_of_length_le (by rw[a7.out];omega)
   rw[eT]at J ⊢;have R0:Hid (∃f i,RP w w5 I F M d m #[.slice ta n O,.string G.s,.int .i64 G.e,.slice ra rn rc] #[.string r.l,.slice Z t L,.string r.p] #[.int .i64 (n:Int),.int .i64 (S.nt:Int),.int .i64 (S.st:Int),.int .i64 S.ex,.slice h.na N h.nc,.slice h.la D h.lc,.slice h.aa C h.ac,.slice h.ra sn h.rc] l (ruG G r).r f i):=J.out;clear J eT
   have c1:w5.cell? ⟨F,1,none⟩=some (.slice Z t L):=by
    obtain⟨f,i,s⟩:=R0.out;rw[qe s.o.x2];rfl
   have c2:w5.cell? ⟨F,2,none⟩=some (.string r.p):=by
    obtain⟨f,i,s⟩:=R0.out;rw[qe s.o.x2];rfl
   obtain⟨E,a0⟩:∃E,Hid (idxI (byL G r.r)=E):=⟨_,rfl⟩
   rw[a0.out]
   obtain⟨bp,g0⟩:∃bp,(r.p.toList == [])=bp:=⟨_,rfl⟩
   have d8:=hid g0
   go_upto_if 45 with fail
   clear g0
   go_cut [8] (fun s8 wd=>s8=.int .i64 (idxI (byG G r))/\Hid (∃f i,RP w wd I F M d m #[.slice ta n O,.string G.s,.int .i64 G.e,.slice ra rn rc] #[.string r.l,.slice Z t L,.string r.p] #[.int .i64 (n:Int),.int .i64 (S.nt:Int),.int .i64 (S.st:Int),.int .i64 S.ex,.slice h.na N h.nc,.slice h.la D h.lc,.slice h.aa C h.ac,.slice h.ra sn h.rc] l (ruG G r).r f i))
   case first =>
    cases bp
    rotate_left
    ·have hp:r.p=e0:=(zy r.p).1 d8.out
     have U:Hid (idxI (byG G r)=E):=by
      show _=_;unfold byG;rw[if_pos hp];exact a0.out
     clear hp;go_wp2_with fail;go_meet;exact⟨by rw[U.out],R0⟩
    ·have hp:¬r.p=e0:=fun e=>by have:=(zy r.p).2 e;rw[d8.out]at this;cases this
     have U:Hid (idxI (zh (tkG G) r.p)=idxI (byG G r)):=by
      show _=_;unfold byG;rw[if_neg hp]
     clear hp;obtain⟨f,i,s⟩:=R0.out;have B:=hid s;obtain⟨p0,p1,p2,p3⟩:=box4 s.x1;clear s R0;rw[U.out]at H;go_wp2_with fail;refine(H.out _ B.out.o.bel).mono ?_;rintro e V4 ⟨rfl,hB⟩
     have HF:Hid (∃f i,RP w V4 I F M d m #[.slice ta n O,.string G.s,.int .i64 G.e,.slice ra rn rc] #[.string r.l,.slice Z t L,.string r.p] #[.int .i64 (n:Int),.int .i64 (S.nt:Int),.int .i64 (S.st:Int),.int .i64 S.ex,.slice h.na N h.nc,.slice h.la D h.lc,.slice h.aa C h.ac,.slice h.ra sn h.rc] l (ruG G r).r f i):=⟨_,_,B.out.step hB⟩
     clear hB B p0 p1 p2 p3;go_wp2_with fail;go_meet;exact⟨rfl,HF⟩
   case rest =>
    obtain⟨rfl,R1⟩:=hcut
    obtain⟨w6,i8⟩:∃w6,w6=wc:=⟨_,rfl⟩
    subst wc;clear R0 a6 H c1 c2;obtain⟨f,i,s⟩:=R1.out;have B:=hid s;clear s R1
    obtain⟨zz,c3⟩:∃zz,Hid (idxI (byG G r)=zz):=⟨_,rfl⟩
    rw[c3.out]
    go_upto_if 51 with fail
    go_cut [8] (fun s8 wd=>Hid (RD7 w wd d m l (ruG G r).r (ruG G r).lv (ruG G r).a f i))
    case first =>
     have f4:Hid ((ruG G r).lv=lvO G.ts (byG G r)/\(ruG G r).a=azO G.ts (byG G r)):=⟨rfl,rfl⟩
     cases K:byG G r with
     | none =>
      have HF:Hid (RD7 w w6 d m l (ruG G r).r (ruG G r).lv (ruG G r).a f i):=by
       have X:=f4.out;rw[K]at X;rw[X.1,X.2];exact B.out.o.done
      have hz:¬(0:Int)<=zz:=by rw[<-c3.out,K];decide
      clear K;go_wp2_with fail;go_meet;exact HF
     | some j =>
      have hj:j<G.ts.length:=qpi K
      obtain⟨u,hu⟩:∃u,G.ts[j]?=some u:=⟨G.ts[j],List.getElem?_eq_getElem hj⟩
      have q5:w6.cell? ⟨I,0,none⟩=some (.slice ta n O):=by rw[qe B.out.x1];rfl
      obtain⟨b,o,a9,v4,v5,v6⟩:=jd (HG.out.1.tok.below B.out.o.bel) hu
      have h3:b<w.heap.size:=by
       obtain⟨b9,o9,h9,v9,-,-⟩:=jd HG.out.1.tok hu;rw[a9]at h9
       cases h9
       exact World.block_lt_of_cell? w _ v9
      simp only at a9;rw[a9]at q5;rw[a1.out]at hj
      have i5:(j:Int)<(n:Int):=by omega
      have y2:w6.cell? ⟨m,2,none⟩=some (.int .i64 0):=by rw[qe B.out.o.x5];rfl
      have y3:w6.cell? ⟨m,3,none⟩=some (.int .i64 0):=by rw[qe B.out.o.x5];rfl
      have f2:=qj B.out.o.x5 2;have f3:=qj B.out.o.x5 3;have q:=(B.out.step (qo w6)).o
      have a2:(ruG G r).lv=u.l/\(ruG G r).a=u.a:=by
       have X:=f4.out;rw[K]at X;rw[X.1,X.2];unfold lvO azO;simp only[hu];exact⟨rfl,rfl⟩
      have g8:Hid (RD7 w ((w6.drew.setCell ⟨m,2,none⟩ (.int .i64 u.l)).setCell ⟨m,3,none⟩ (.int .i64 u.a)) d m l (ruG G r).r (ruG G r).lv (ruG G r).a f i):=by
       rw[a2.1,a2.2];exact(q.done.put2 q.ne q.n5 u.l).put3 q.ne q.n5 u.a
      have g9:Hid (RD7 w ((w6.drew.setCell ⟨m,3,none⟩ (.int .i64 u.a)).setCell ⟨m,2,none⟩ (.int .i64 u.l)) d m l (ruG G r).r (ruG G r).lv (ruG G r).a f i):=by
       rw[a2.1,a2.2];exact(q.done.put3 q.ne q.n5 u.a).put2 q.ne q.n5 u.l
      obtain rfl:zz=(j:Int):=by rw[<-c3.out,K];rfl
      have n3:=qu ⟨_,B.out.x1⟩ ⟨_,B.out.o.x5⟩ (by decide)
      have R:b≠m:=by have:=B.out.o.n5;omega
      clear q a2 hu K a9 hj h3 v4
      go_upto_region 13 with fail
      go_region_held (fun Y=>Y.cell? ⟨I,0,none⟩=some (.slice (some ⟨b,o,none⟩) n O)/\Y.cell? ⟨b,o+j * 3+1,none⟩=some (.int .i64 u.l)/\Y.cell? ⟨b,o+j * 3+2,none⟩=some (.int .i64 u.a)) (first | exact⟨q5,v5,v6⟩ | exact⟨zg q5 n3,zg v5 R,zg v6 R⟩ | exact⟨zg (zg q5 n3) n3,zg (zg v5 R) R,zg (zg v6 R) R⟩) (fail)
      all_goals
       go_wp2_with fail;go_meet
       first | exact g8 | exact g9
    case rest =>
     obtain⟨w7,j0⟩:∃w7,w7=wc:=⟨_,rfl⟩
     subst wc;have T:=hid2 hcut.out d6.out;clear hcut B
     have y0:w7.cell? ⟨m,0,none⟩=some (.int .i64 l):=by rw[qe T.out.1.x5];rfl
     have y1:w7.cell? ⟨m,1,none⟩=some (.slice f (ruG G r).r.length i):=by rw[qe T.out.1.x5];rfl
     have y2:w7.cell? ⟨m,2,none⟩=some (.int .i64 (ruG G r).lv):=by rw[qe T.out.1.x5];rfl
     have y3:w7.cell? ⟨m,3,none⟩=some (.int .i64 (ruG G r).a):=by rw[qe T.out.1.x5];rfl
     obtain⟨z0,z1,z2,z3,f0,f1,f2,f3⟩:=qdq T.out.1.x4
     have HF:Hid (∀v0 v1 v2 v3,((((w7.setCell ⟨d,0,none⟩ v0).setCell ⟨d,1,none⟩ v1).setCell ⟨d,2,none⟩ v2).setCell ⟨d,3,none⟩ v3).ownsRow w.heap.size 3 1 (.slice f (ruG G r).r.length i) (ruG G r).r.length (natC (ruG G r).r)/\Below w.heap.size w ((((w7.setCell ⟨d,0,none⟩ v0).setCell ⟨d,1,none⟩ v1).setCell ⟨d,2,none⟩ v2).setCell ⟨d,3,none⟩ v3)):=fun v0 v1 v2 v3=>by
      have hl:Loc w7 d 56:=⟨_,T.out.1.x4⟩
      have l1:=hl.set d 0 v0;have l2:=l1.set d 1 v1;have l3:=l2.set d 2 v2;exact⟨vg (vg (vg (vg T.out.1.own hl (by decide)) l1 (by decide)) l2 (by decide)) l3 (by decide),(((T.out.1.bel.setCell (p:=⟨d,0,none⟩) T.out.2 _).setCell (p:=⟨d,1,none⟩) T.out.2 _).setCell (p:=⟨d,2,none⟩) T.out.2 _).setCell (p:=⟨d,3,none⟩) T.out.2 _⟩
     obtain⟨yn,f8⟩:∃yn,Hid ((ruG G r).r.length=yn):=⟨_,rfl⟩
     obtain⟨d2,f7⟩:∃d2,Hid ((ruG G r).lv=d2):=⟨_,rfl⟩
     obtain⟨d1,f6⟩:∃d1,Hid ((ruG G r).a=d1):=⟨_,rfl⟩
     rw[f8.out]at y1;rw[f7.out]at y2;rw[f6.out]at y3;go_wp2_with fail;refine bodyPost_ret (v:=.agg #[.int .i64 l,.slice f yn i,.int .i64 d2,.int .i64 d1]) (by simp[results,Tryz.results25,go_sem, *]) rfl ?_;exact⟨f,i,by rw[<-d9.out,f8.out,f7.out,f6.out],HF.out _ _ _ _⟩
end Go.Proofs.YtbdogaaooeoccaaGreatDoor
