/- Texts that the proofs of the First statements stand on, part Prf07. -/
import Derived.Deep.RegionHeld
import Derived.Test.YtngclmglmhiljaaGreatDoorPrf06
set_option maxHeartbeats 16000000
set_option maxRecDepth 100000
namespace Go.Proofs.YtngclmglmhiljaaGreatDoor
open Go.RowKit
def Emp (S:Sp) (i:Nat) (ms:List Int) (fd:List Bool):Prop:=∀(j:Nat) (r:SR),0<j->j<i->S.rs[j]?=some r->ms[j]?=some ((r.r.length:Nat):Int)/\∀xl:Nat,r.r=[]->r.l=(xl:Int)->isF fd xl=true
structure Y1 (w W:World) (h:SHd) (S:Sp) (p:YP) (b4 gm n:Nat) (i i2 k:Nat) (va:Option Addr) (vc:Nat) (vs:List (Option Addr × Nat)) (fd:List Bool) (fr:List Nat) (ms:List Int) (wt:List (List Nat)):Prop where
 ym:YM w W h S p b4 gm va vc vs fd fr ms wt
 ml:ms.length=S.rs.length
 wl:wt.length=n
 ok:MK n fd fr
 np:∀x,isF fd x=true->x∈fr
 der:yo S fd
 emp:Emp S i2 ms fd
 wts:WtsK S i k wt
 rows:∀(x:Nat) (l:List Nat),wt[x]?=some l->l.length<=i * 100+k
theorem Y1.below{w W a:World}{h:SHd}{S:Sp}{p:YP}{b d n i f k:Nat}{j:Option Addr}{l:Nat}{m:List (Option Addr × Nat)}{fd:List Bool}{c:List Nat}{g:List Int}{o:List (List Nat)}(y:Y1 w W h S p b d n i f k j l m fd c g o)(q:Below W.heap.size W a):Y1 w a h S p b d n i f k j l m fd c g o :=
 ⟨y.ym.below q,y.ml,y.wl,y.ok,y.np,y.der,y.emp,y.wts,y.rows⟩
theorem qq4{fd:List Bool}{b:List Nat}{x:Nat}(h:∀z,isF fd z=true->z∈b)(d:x<fd.length):∀z,isF (mkd fd b x).1 z=true->z∈(mkd fd b x).2:=by
 intro z a;unfold mkd at a ⊢
 cases c:isF fd x
 ·rw[c]at a;simp only[Bool.false_eq_true,if_false]at a ⊢;rw[k8 d]at a
  split at a
  ·rename_i e;subst e;simp
  ·exact List.mem_append_left _ (h z a)
 ·rw[c]at a;exact h z a
theorem qr7{S:Sp}{i:Nat}{f:List Int}{fd a:List Bool}(h:Emp S i f fd)(up:∀z,isF fd z=true->isF a z=true):Emp S i f a :=
 fun j r b c d=>⟨(h j r b c d).1,fun g e k=>up g ((h j r b c d).2 g e k)⟩
theorem Y1.mark{w W d:World}{h:SHd}{S:Sp}{p:YP}{g j n i m k x:Nat}{q b:Option Addr}{C c:Nat}{r:List (Option Addr × Nat)}{fd:List Bool}{a:List Nat}{o:List Int}{s:List (List Nat)}(y:Y1 w W h S p g j n i m k q C r fd a o s)(l:x<n)(hd:Der S x)(v:Mrk d w.heap.size p.mb p.fb b c (mkd fd a x).1 (mkd fd a x).2)(A:MMv W p.mb p.fb q d b):
  Y1 w d h S p g j n i m k b c r (mkd fd a x).1 (mkd fd a x).2 o s/\isF (mkd fd a x).1 x=true/\∀z,isF fd z=true->isF (mkd fd a x).1 z=true:=by
 obtain⟨f,t,u⟩:=y9 y.ok l;refine⟨⟨y.ym.mark v A,y.ml,y.wl,f.ok,qq4 y.np (by rw[y.ok.len];exact l),fun z B=>?_,qr7 y.emp f.up,y.wts,y.rows⟩,t,f.up⟩
 rcases u z B with e | e
 ·exact y.der z e
 ·subst e;exact hd
theorem Y1.put{w W:World}{h:SHd}{S:Sp}{p:YP}{b a n i k:Nat}{m:Option Addr}{o:Nat}{q:List (Option Addr × Nat)}{fd:List Bool}{c:List Nat}{l:List Int}{s:List (List Nat)}{z:Int}(y:Y1 w W h S p b a n i i k m o q fd c l s):Y1 w (W.setCell ⟨a,i,none⟩ (.int .i64 z)) h S p b a n i i k m o q fd c (l.set i z) s :=
 ⟨y.ym.put,by rw[List.length_set];exact y.ml,y.wl,y.ok,y.np,y.der,fun j r d f g=>⟨by rw[List.getElem?_set,if_neg (by omega)];exact(y.emp j r d f g).1,(y.emp j r d f g).2⟩,y.wts,y.rows⟩
theorem Y1.told{w W:World}{h:SHd}{S:Sp}{p:YP}{c f n i k:Nat}{g:Option Addr}{m:Nat}{o:List (Option Addr × Nat)}{fd:List Bool}{d:List Nat}{b:List Int}{s:List (List Nat)}{r:SR}(y:Y1 w W h S p c f n i i k g m o fd d b s)(z:S.rs[i]?=some r)(x:b[i]?=some ((r.r.length:Nat):Int))(v:∀t:Nat,r.r=[]->r.l=(t:Int)->isF fd t=true):Y1 w W h S p c f n i (i+1) k g m o fd d b s:=by
 refine⟨y.ym,y.ml,y.wl,y.ok,y.np,y.der,fun j q u A a=>?_,y.wts,y.rows⟩
 rcases Nat.lt_or_ge j i with hlt | hge
 ·exact y.emp j q u hlt a
 ·have:j=i:=by omega
  subst this;rw[z]at a
  cases a
  exact⟨x,v⟩
theorem Y1.next{w W:World}{h:SHd}{S:Sp}{p:YP}{a c n i k:Nat}{f:Option Addr}{g:Nat}{j:List (Option Addr × Nat)}{fd:List Bool}{b:List Nat}{d:List Int}{m:List (List Nat)}(y:Y1 w W h S p a c n i (i+1) k f g j fd b d m)(o:(rgt S i).length<=k)(q:k<=100):Y1 w W h S p a c n (i+1) (i+1) 0 f g j fd b d m :=
 ⟨y.ym,y.ml,y.wl,y.ok,y.np,y.der,y.emp,qob y.wts o,fun x l r=>by have:=y.rows x l r;omega⟩
theorem Y1.skip{w W:World}{h:SHd}{S:Sp}{p:YP}{a c n:Nat}{f:Option Addr}{g:Nat}{i:List (Option Addr × Nat)}{fd:List Bool}{b:List Nat}{d:List Int}{k:List (List Nat)}(y:Y1 w W h S p a c n 0 0 0 f g i fd b d k):Y1 w W h S p a c n 1 1 0 f g i fd b d k :=
 ⟨y.ym,y.ml,y.wl,y.ok,y.np,y.der,fun j q o r s=>by omega,qoa y.wts,fun x l m=>by have:=y.rows x l m;omega⟩
theorem Y1.push{w W:World}{h:SHd}{S:Sp}{p:YP}{B E n i k x:Nat}{H:Option Addr}{I:Nat}{Q:List (Option Addr × Nat)}{fd:List Bool}{D:List Nat}{G:List Int}{v:List (List Nat)}(y:Y1 w W h S p B E n i (i+1) k H I Q fd D G v)(N:0<i)(P:(rgt S i)[k]?=some x)(s:x<n)(T:i * 100+k<100000):
  ∃t d o g c a,W.cell? ⟨p.wb,x,none⟩=some (.slice t d o)/\d<=o/\o<=9223372036854775807/\(Builtin.append_ #[26,26] 26 #[.slice t d o,.slice (some ⟨W.heap.size,0,none⟩) 1 1]).run Tryz.prog (W.alloc (.cells #[.int .i64 (i:Int)] 3))=.ok (.slice (some ⟨g,0,none⟩) (d+1) c) a /\
   a.cell? ⟨p.wb,x,none⟩=some (.slice t d o)/\a.frozen? ⟨p.wb,x,none⟩=false/\a.cell? ⟨p.b5,0,none⟩=some (.slice (some ⟨p.wb,0,none⟩) n n) /\
   ∃u A,Y1 w (a.setCell ⟨p.wb,x,none⟩ (.slice (some ⟨g,0,none⟩) (d+1) c)) h S p B E n i (i+1) (k+1) H I u fd D G A:=by
 obtain⟨l,f⟩:∃l,v[x]?=some l:=⟨v[x]'(by rw[y.wl];exact s),List.getElem?_eq_getElem _⟩
 obtain⟨q,r,c1,-⟩:=y.ym.yb.grd.at f;have F:=y.rows x l f;obtain⟨g,c,a,O,J,K,C,R,L,M⟩:=y.ym.yb.push (i:=i) f r (by omega);have j:=z8 (y.ym.yb.grd.row x q l r f);rw[y.wl]at C;refine⟨q.1,l.length,q.2,g,c,a,c1,j.1,j.2,O,J,K,C,_,_,y.ym.push r R L M,y.ml,by rw[List.length_set];exact y.wl,y.ok,y.np,y.der,y.emp,qoc y.wts N P f,fun z m b=>?_⟩
 rw[List.getElem?_set]at b
 split at b
 ·split at b
  ·cases b
   rw[List.length_append];simp;omega
  ·cases b
 ·have:=y.rows z m b;omega
theorem v8{f:FuncId}{b:Func}(i:Tryz.prog.funcs[f]?=some b)(a:(b.name == "runtime.NumGoroutine")=false) (h:b.body.isNone=false) (args:Array Value) (w:World):(callFunc f args).run Tryz.prog w=.ok (.enter f args) w:=by
 have c:b.name ≠ "runtime.NumGoroutine" := by simpa using a
 have d:¬b.body.isNone=true:=by rw[h];simp
 have g:¬b.body=none:=by simpa using d
 simp[callFunc,i,c,g]
theorem qq5(args:Array Value)(w:World):(callFunc 78 args).run Tryz.prog w=.ok (.enter 78 args) w:=v8 Tryz.func78 (by kernel_rfl) (by kernel_rfl) args w
theorem ql4(args:Array Value)(w:World):(callFunc 70 args).run Tryz.prog w=.ok (.enter 70 args) w:=v8 Tryz.func70 (by kernel_rfl) (by kernel_rfl) args w
def IY (w:World) (h:SHd) (S:Sp) (p:YP) (b4 gm n:Nat) (vs:List (Option Addr × Nat)) (wt:List (List Nat)) (W:World) (va:Option Addr) (vc:Nat) (fd:List Bool) (fr:List Nat):Prop :=
 ∃ms,YM w W h S p b4 gm va vc vs fd fr ms wt/\MK n fd fr/\ms.length=S.rs.length/\Miss S ms (prc fd fr) (fun _=>0)/\Zero S ms fd/\yo S fd/\Toks S fd
theorem qq6{w:World}{h:SHd}{S:Sp}{p:YP}{d g n:Nat}{j:List (Option Addr × Nat)}{k:List (List Nat)}:∀W b c fd a,IY w h S p d g n j k W b c fd a->MK n fd a/\∃f,Mrk W w.heap.size p.mb f b c fd a:=by
 rintro W b c fd a ⟨l,y,i,-⟩;exact⟨i,p.fb,y.yb.mrk⟩
theorem qq7{w:World}{h:SHd}{S:Sp}{p:YP}{k q n:Nat}{t:List (Option Addr × Nat)}{c:List (List Nat)}(C:WF S)(B:IsSp w h S)(v:n=S.tk+1+S.nt)(D:c.length=n)(I:Wts S S.rs.length c)(f:∀(x:Nat) (l:List Nat),c[x]?=some l->l.length<=100000):
  ∀W m o fd d x,IY w h S p k q n t c W m o fd (d++[x])->Calls Tryz.prog 78 (#[.int .i64 (x:Int)]++#[.pointer (some ⟨p.b5,0,none⟩),.pointer (some ⟨k,0,none⟩),.pointer (some ⟨p.b3,0,none⟩),.pointer (some ⟨p.b1,0,none⟩)]) (popW W p.mb m d.length o) fun e G=>e=.returned (.tuple #[])/\∃g j a b,IY w h S p k q n t c G g j a b/\lft n a b<lft n fd (d++[x]):=by
 rintro W m o fd d x ⟨Z,y,U,u,Q,T,H,R⟩;obtain⟨Y,J,K,L⟩:=U.pop
 obtain⟨l,s⟩:∃l,c[x]?=some l:=⟨c[x]'(by rw[D];exact L),List.getElem?_eq_getElem _⟩
 have y1:LK w (popW W p.mb m d.length o) h S p k q t c n fd d l 0:=⟨m,o,fd,d,Z,y.pop,u,Adds.refl Y,qpc Q K J I s,T,H⟩
 refine(qla w _ h S p k q t c n x fd d l y1 C B v s (qq3 I s) H (f x l s)).mono ?_;rintro e G ⟨rfl,g,j,a,b,F,y',E,A,N,O,M⟩;refine⟨rfl,g,j,a,b,⟨F,y',A.ok,E,?_,O,M,fun z X=>A.up z (R z X)⟩,?_⟩
 ·rw[A.pr];intro i r P V;have:=N i r P V;rw[List.drop_length]at this;exact this
 ·rw[qff A];exact qg6 L K J
theorem qpq{w W:World}{h:SHd}{S:Sp}{p:YP}{d f n:Nat}{k:Option Addr}{l:Nat}{m:List (Option Addr × Nat)}{fd:List Bool}{b:List Nat}{j:List Int}{o:List (List Nat)}(y:Y1 w W h S p d f n S.rs.length S.rs.length 0 k l m fd b j o)(v:∀x,x<S.tk->isF fd x=true):IY w h S p d f n m o W k l fd b:=by
 have u:∀x,prc fd b x=false:=by
  intro x;unfold prc
  cases s:isF fd x
  ·rfl
  ·have:=y.np x s;simp[this]
 refine⟨j,y.ym,y.ok,y.ml,fun i r c a=>?_,fun i r x c a t z=>?_,y.der,v⟩
 ·rw[qry u];exact(y.emp i r c (List.getElem?_eq_some_iff.1 a).1 a).1
 ·obtain⟨g,q⟩:=y.emp i r c (List.getElem?_eq_some_iff.1 a).1 a;rw[z]at g;simp only[Option.some.injEq]at g;exact q x (List.eq_nil_of_length_eq_zero (by omega)) t
def BRes (w w':World) (n:Nat) (P:Nat->Prop) (e:Ending):Prop:=∃fb fd,e=.returned (.slice (some ⟨fb,0,none⟩) n n)/\fd.length=n/\w'.ownsRow w.heap.size 4 1 (.slice (some ⟨fb,0,none⟩) n n) n (booC fd)/\ko P fd/\Below w.heap.size w w'
theorem qb6(w:World)(h:SHd)(S:Sp)(n:Nat)(d9:n=S.tk+1+S.nt)(Q:WF S)(f5:IsSp w h S):
  Calls Tryz.prog 61 #[sv h S] w fun e w'=>BRes w w' n (Der S) e:=by
 have hz:Szs S n:=by rw[d9];exact Q.szs
 have hn:n<=1000:=by have:=Q.tk;have:=Q.nt;omega
 have k5:S.rs.length<=300:=Q.nr
 have HC:Hid (∀V:World,Calls Tryz.prog 65 #[.agg (sC h S)] V fun e w'=>e=.returned (.int .i64 (n:Int))/\Below V.heap.size V w'):=fun V=>qa0 h S V n hz
 have a4:Hid (∀(V:World) (z:Nat),z<n->Calls Tryz.prog 67 #[.agg (sC h S),.int .i64 (z:Int)] V fun e w'=>e=.returned (.bool true)/\Below V.heap.size V w'):=fun V z E=>qaa h S V n z hz E
 have a3:Hid (∀(V:World) (z:Nat),z<n->S.tk<z->Calls Tryz.prog 66 #[.agg (sC h S),.int .i64 (z:Int)] V fun e w'=>e=.returned (.bool true)/\Below V.heap.size V w'):=fun V z E ht=>qed h S V n z hz E ht
 have a2:Hid (∀(V:World),Calls Tryz.prog 66 #[.agg (sC h S),.int .i64 (-1)] V fun e w'=>e=.returned (.bool false)/\Below V.heap.size V w'):=fun V=>qe3 h S V
 have C:Hid (WF S/\IsSp w h S/\n=S.tk+1+S.nt):=⟨Q,f5,d9⟩
 have d6:Below w.heap.size w (w.alloc (.cells (sC h S) 31)):=qb _ _;have a7:(w.alloc (.cells (sC h S) 31)).heap[w.heap.size]?=some (.cells (sC h S) 31 (0,0)):=heap_alloc_new _ _;obtain⟨rb,ro,-,-,Z,-⟩:=f5.rl.at Q.hd;have M:Hid (h.ra=some ⟨rb,ro,none⟩):=Z;clear Q f5 d9 hz;unfold sv sC;unfold sC at HC a4 a3 a2;rw[Z]at HC a4 a3 a2 ⊢;clear Z
 obtain⟨d,A⟩:∃d,Hid (S.rs.length=d):=⟨_,rfl⟩
 rw[A.out]at HC a4 a3 a2 k5 ⊢;go_enter Tryz.func61,Tryz.ntmps61
 go_upto_region 1 with fail
 have e0:w.alloc (.cells #[.int .i64 (S.tk:Int),.int .i64 (S.nt:Int),.int .i64 (S.st:Int),.int .i64 S.ex,.slice h.na S.nm.length h.nc,.slice h.la S.lv.length h.lc,.slice h.aa S.az.length h.ac,.slice (some ⟨rb,ro,none⟩) d h.rc] 31)=w.alloc (.cells (sC h S) 31):=by unfold sC;rw[M.out,A.out]
 rw[e0];generalize w.alloc (.cells (sC h S) 31)=W0 at d6 a7 ⊢
 obtain⟨b1,g0⟩:∃b1,Hid (b1=w.heap.size):=⟨_,rfl⟩
 rw[<-g0.out]at a7 ⊢;obtain⟨c0,c1,c2,c3,c4,c5,c6,P⟩:=sbox a7;rw[M.out,A.out]at P
 have c9:Hid (Below w.heap.size w W0/\W0.heap[b1]?=some (.cells (sC h S) 31 (0,0))):=⟨d6,a7⟩
 clear e0 d6 a7;go_wp2_with fail;refine(HC.out _).mono ?_;rintro e W1 ⟨rfl,F⟩
 have a8:Hid (Below w.heap.size w W1/\W1.heap[b1]?=some (.cells (sC h S) 31 (0,0))):=⟨qd c9.out.1 F,qf F c9.out.2⟩
 clear F c9;go_wp2_with fail;refine(qat W1 n hn).mono ?_;rintro e W2 ⟨R,fb,rfl,hM,d7⟩;clear c0 c1 c2 c3 c4 c5 c6 P;have h3:Below W2.heap.size W2 (W2.alloc (.cells #[.pointer (some ⟨R,0,none⟩)] 94)):=qb _ _
 have HA:Hid (Below w.heap.size w (W2.alloc (.cells #[.pointer (some ⟨R,0,none⟩)] 94))/\(W2.alloc (.cells #[.pointer (some ⟨R,0,none⟩)] 94)).heap[b1]?=some (.cells (sC h S) 31 (0,0))/\(W2.alloc (.cells #[.pointer (some ⟨R,0,none⟩)] 94)).heap[W2.heap.size]?=some (.cells #[.pointer (some ⟨R,0,none⟩)] 94 (0,0))/\Mrk (W2.alloc (.cells #[.pointer (some ⟨R,0,none⟩)] 94)) w.heap.size R fb none 0 (List.replicate n false) []) :=
  ⟨qd (qd a8.out.1 d7) h3,qf h3 (qf d7 a8.out.2),heap_alloc_new _ _,(hM.mono a8.out.1.size).keep (fun k hk=>h3.block k (hM.loc hk).2.1)⟩
 clear hM d7 a8 h3
 go_upto_region 2 with fail
 obtain⟨b3,g3⟩:∃b3,Hid (b3=W2.heap.size):=⟨_,rfl⟩
 rw[<-g3.out]at HA ⊢;generalize W2.alloc (.cells #[.pointer (some ⟨R,0,none⟩)] 94)=U at HA ⊢;clear g3;obtain⟨W4,k1,h9,Y⟩:=qn8 U w.heap.size d (by omega) HA.out.1.size;obtain⟨-,-,-,-,-,-,-,P⟩:=sbox HA.out.2.1;rw[M.out,A.out]at P;have h5:Below W4.heap.size W4 (W4.alloc (.cells #[.slice (some ⟨U.heap.size,0,none⟩) d d] 26)):=qb _ _
 have HE:Hid (Below U.heap.size U (W4.alloc (.cells #[.slice (some ⟨U.heap.size,0,none⟩) d d] 26))/\(W4.alloc (.cells #[.slice (some ⟨U.heap.size,0,none⟩) d d] 26)).heap[W4.heap.size]?=some (.cells #[.slice (some ⟨U.heap.size,0,none⟩) d d] 26 (0,0))/\(W4.alloc (.cells #[.slice (some ⟨U.heap.size,0,none⟩) d d] 26)).ownsRow w.heap.size 3 1 (.slice (some ⟨U.heap.size,0,none⟩) d d) d (intC (List.replicate d 0))/\W4.heap.size<(W4.alloc (.cells #[.slice (some ⟨U.heap.size,0,none⟩) d d] 26)).heap.size) :=
  ⟨qd Y h5,heap_alloc_new _ _,h9.alloc _,by rw[qt];omega⟩
 clear h9 Y h5;have k3:=j6 C.out.2.1.rl;rw[A.out]at k3
 go_upto_region 3 with fail
 clear k1 P
 obtain⟨u,d4⟩:∃u,Hid (u=U.heap.size):=⟨_,rfl⟩
 obtain⟨B,g4⟩:∃B,Hid (B=W4.heap.size):=⟨_,rfl⟩
 rw[<-d4.out,<-g4.out]at HE ⊢;generalize W4.alloc (.cells #[.slice (some ⟨u,0,none⟩) d d] 26)=H at HE ⊢
 have a1:Hid (Below w.heap.size w H/\H.heap[b1]?=some (.cells (sC h S) 31 (0,0))/\H.heap[b3]?=some (.cells #[.pointer (some ⟨R,0,none⟩)] 94 (0,0))/\Mrk H w.heap.size R fb none 0 (List.replicate n false) []/\H.heap[B]?=some (.cells #[.slice (some ⟨u,0,none⟩) d d] 26 (0,0))/\H.ownsRow w.heap.size 3 1 (.slice (some ⟨u,0,none⟩) d d) d (intC (List.replicate d 0))/\B<H.heap.size):=by
  obtain⟨q1,q2,q3,q4⟩:=HA.out;obtain⟨r1,r2,r3,r4⟩:=HE.out;rw[d4.out]at r1;have b9:Below U.heap.size U H:=r1;exact⟨qd q1 b9,qf b9 q2,qf b9 q3,q4.keep (fun k hk=>b9.block k (q4.loc hk).2.1),r2,r3,r4⟩
 clear HA HE d4 g4;obtain⟨W6,k2,g8,g6⟩:=qcj H w.heap.size n hn a1.out.1.size
 have d3:H.cell? ⟨b3,0,none⟩=some (.pointer (some ⟨R,0,none⟩)):=by rw[qe a1.out.2.2.1];rfl
 have dm:H.cell? ⟨R,0,none⟩=some (.slice (some ⟨fb,0,none⟩) n n):=by rw[qe a1.out.2.2.2.1.box,List.length_replicate];rfl
 have h7:Below W6.heap.size W6 (W6.alloc (.cells #[.slice (some ⟨H.heap.size,0,none⟩) n n] 38)):=qb _ _
 have H7:Hid (Y1 w (W6.alloc (.cells #[.slice (some ⟨H.heap.size,0,none⟩) n n] 38)) h S ⟨b1,b3,W6.heap.size,R,fb,H.heap.size⟩ B u n 0 0 0 none 0 (List.replicate n (none,0)) (List.replicate n false) [] (List.replicate d 0) (List.replicate n [])):=by
  obtain⟨q1,q2,q3,q4,q5,q6,q7⟩:=a1.out;have hb:Below H.heap.size H (W6.alloc (.cells #[.slice (some ⟨H.heap.size,0,none⟩) n n] 38)):=qd g6 h7
  have i1:∀x,isF (List.replicate n false) x=true->False:=by
   intro x E;unfold isF at E
   cases hq:(List.replicate n false)[x]? with
   | none=>rw[hq]at E;cases E
   | some b =>
    rw[hq]at E;have:=List.mem_of_getElem? hq;rw[List.mem_replicate]at this;rw[this.2]at E
    cases E
  refine⟨⟨⟨qd q1 hb,qf hb q2,qf hb q3,?_,q4.keep (fun k hk=>hb.block k (q4.loc hk).2.1),g8.below h7,fun k hk=>(qgl hk).elim⟩,?_,?_,(fun e=>by cases e),fun k hk=>(qgl hk).elim,?_⟩,by rw[List.length_replicate];exact A.out.symm,by simp,⟨by simp,List.nodup_nil,(fun x E=>by cases E)⟩,fun x E=>(i1 x E).elim,fun x E=>(i1 x E).elim,(fun j r h0 h1=>by omega),qn9 S n 0,fun x l hl=>?_⟩
  ·simp only[List.length_replicate];exact heap_alloc_new _ _
  ·rw[List.length_replicate];exact qf hb q5
  ·rw[List.length_replicate];exact qh q6 (fun i hi=>hb.block i (World.ownsRow.lt q6 i hi).2)
  ·simp only;omega
  ·have:=List.mem_of_getElem? hl;rw[List.mem_replicate]at this;rw[this.2];simp
 clear g8 g6 h7 a1
 go_upto_region 4 with fail
 clear k2 d3 dm;generalize W6.alloc (.cells #[.slice (some ⟨H.heap.size,0,none⟩) n n] 38)=W7 at H7 ⊢;generalize W6.heap.size=b5 at H7 ⊢;generalize H.heap.size=wb at H7 ⊢
 obtain⟨p,HP⟩:∃p:YP,Hid (p=⟨b1,b3,b5,R,fb,wb⟩):=⟨_,rfl⟩
 have p1:b1=p.b1:=by rw[HP.out]
 have p3:b3=p.b3:=by rw[HP.out]
 have p5:b5=p.b5:=by rw[HP.out]
 have pm:R=p.mb:=by rw[HP.out]
 have pf:fb=p.fb:=by rw[HP.out]
 have pw:wb=p.wb:=by rw[HP.out]
 rw[<-HP.out]at H7;clear HP g0;subst p1 p3 p5 pm pf pw;obtain⟨-,-,-,-,-,-,-,P⟩:=sbox H7.out.ym.yb.bs;rw[M.out,A.out]at P
 go_upto_block 0 with fail
 clear P
 go_cut [27] (fun s27 wd=>Hid (∃q s t fd m o f,Y1 w wd h S p B u n d d 0 q s t fd m o f))
 case first =>
  go_wp2_with fail
  go_loopg [27] d (fun kx s27 wr=>∃i:Nat,s27=.int .i64 i/\i<=d/\d - i<=kx/\Hid (∃q s t fd m o f,Y1 w wr h S p B u n i i 0 q s t fd m o f))
  case atStart=>exact⟨0,rfl,Nat.zero_le _,by omega,(⟨_,_,_,_,_,_,_,H7.out⟩:∃q s t fd m o f,Y1 w W7 h S p B u n 0 0 0 q s t fd m o f)⟩
  case round =>
   clear H7;obtain⟨i,rfl,hi,hg,J⟩:=hrel
   by_cases b6:i<d
   ·have a5:(i:Int)<(d:Int):=by omega
    obtain⟨q,s,t,fd,m,o,f,y⟩:=J.out
    obtain⟨r,hr⟩:∃r,S.rs[i]?=some r:=⟨S.rs[i]'(by rw[A.out];exact b6),List.getElem?_eq_getElem _⟩
    obtain⟨n0,n1,xa,xc,Z,d0,d1,d2,d3,f8⟩:=C.out.2.1.rl.at hr;rw[M.out]at Z
    cases Z
    have d0:=qj y.ym.yb.bel d0;have d1:=qj y.ym.yb.bel d1;have d2:=qj y.ym.yb.bel d2;have d3:=qj y.ym.yb.bel d3;have l1:=ze f8;have k4:r.r.length<=100:=(C.out.1.rr r (List.mem_of_getElem? hr)).1
    have HR:Hid (S.rs[i]?=some r/\Row w 1 xa r.r.length xc (natC r.r)):=⟨hr,f8⟩
    have hv:Below wr.heap.size wr (wr.alloc (.cells #[.int .i64 r.l,.slice xa r.r.length xc,.int .i64 r.lv,.int .i64 r.a] 47)):=qb _ _
    have HV:Hid (Y1 w (wr.alloc (.cells #[.int .i64 r.l,.slice xa r.r.length xc,.int .i64 r.lv,.int .i64 r.a] 47)) h S p B u n i i 0 q s t fd m o f/\(wr.alloc (.cells #[.int .i64 r.l,.slice xa r.r.length xc,.int .i64 r.lv,.int .i64 r.a] 47)).heap[wr.heap.size]?=some (.cells #[.int .i64 r.l,.slice xa r.r.length xc,.int .i64 r.lv,.int .i64 r.a] 47 (0,0))):=⟨y.below hv,heap_alloc_new _ _⟩
    clear y J hr f8 hv
    go_upto_region 7 with fail
    obtain⟨X,g5⟩:∃X,Hid (X=wr.heap.size):=⟨_,rfl⟩
    rw[<-g5.out]at HV ⊢;generalize wr.alloc (.cells #[.int .i64 r.l,.slice xa r.r.length xc,.int .i64 r.lv,.int .i64 r.a] 47)=V at HV ⊢;clear g5 d0 d1 d2 d3;obtain⟨c0,c1,c2,c3,c4,c5,c6,P⟩:=sbox HV.out.1.ym.yb.bs
    have e0:V.cell? ⟨X,0,none⟩=some (.int .i64 r.l):=by rw[qe HV.out.2];rfl
    rw[M.out,A.out]at P
    by_cases i5:i=0
    ·subst i5
     have i7:r.l=-1:=by
      have h1:=C.out.1.hd;rw[HR.out.1]at h1
      cases h1
      rfl
     rw[i7]at e0;go_wp2_with fail;refine(a2.out _).mono ?_;rintro e T ⟨rfl,F⟩
     have L:Hid (∃q s t fd m o f,Y1 w T h S p B u n 1 1 0 q s t fd m o f):=⟨q,s,t,fd,m,o,f,(HV.out.1.below F).skip⟩
     clear F c0 c1 c2 c3 c4 c5 c6 P e0;go_wp2_with fail;go_roundg (d - (0+1))
     case measure=>omega
     case rel=>exact⟨1,by simp,by omega,by omega,L⟩
    ·obtain⟨xl,f6,f9,f7⟩:=C.out.1.rl i r (by omega) HR.out.1;rw[<-C.out.2.2]at f7;rw[f6]at e0;go_wp2_with fail;refine(a3.out _ _ f7 f9).mono ?_;rintro e T ⟨rfl,F⟩
     have D:Hid (Y1 w T h S p B u n i i 0 q s t fd m o f/\T.heap[X]?=some (.cells #[.int .i64 r.l,.slice xa r.r.length xc,.int .i64 r.lv,.int .i64 r.a] 47 (0,0))):=⟨HV.out.1.below F,qf F HV.out.2⟩
     clear F c0 c1 c2 c3 c4 c5 c6 P e0 HV
     have O:Hid (r.l=(xl:Int)/\S.tk<xl/\xl<n/\0<i):=⟨f6,f9,f7,by omega⟩
     clear f6 f9
     have f1:T.cell? ⟨B,0,none⟩=some (.slice (some ⟨u,0,none⟩) d d):=by
      have:=D.out.1.ym.bi;rw[D.out.1.ml,A.out]at this;rw[qe this];rfl
     have f2:T.cell? ⟨X,1,none⟩=some (.slice xa r.r.length xc):=by rw[qe D.out.2];rfl
     have b0:i<o.length:=by rw[D.out.1.ml,A.out];exact b6
     have f3:T.cell? ⟨u,i,none⟩=some (.int .i64 o[i]):=by
      rw[D.out.1.ym.mis.cellAt i (by omega)];unfold intC;rw[List.getElem?_map,List.getElem?_eq_getElem b0];rfl
     have f4:T.frozen? ⟨u,i,none⟩=false:=D.out.1.ym.mis.frozenAt i;have y2:Y1 w (T.setCell ⟨u,i,none⟩ (.int .i64 (r.r.length:Int))) h S p B u n i i 0 q s t fd m (o.set i (r.r.length:Int)) f:=D.out.1.put
     have g1:(T.setCell ⟨u,i,none⟩ (.int .i64 (r.r.length:Int))).cell? ⟨B,0,none⟩=some (.slice (some ⟨u,0,none⟩) d d):=by
      have:=y2.ym.bi;rw[y2.ml,A.out]at this;rw[qe this];rfl
     have g2:(T.setCell ⟨u,i,none⟩ (.int .i64 (r.r.length:Int))).cell? ⟨u,i,none⟩=some (.int .i64 (r.r.length:Int)):=by
      rw[y2.ym.mis.cellAt i (by rw[List.length_set];omega)]
      unfold intC;rw[List.getElem?_map,List.getElem?_set_self b0];rfl
     have v:Hid (Y1 w (T.setCell ⟨u,i,none⟩ (.int .i64 (r.r.length:Int))) h S p B u n i i 0 q s t fd m (o.set i (r.r.length:Int)) f/\(T.setCell ⟨u,i,none⟩ (.int .i64 (r.r.length:Int))).heap[X]?=some (.cells #[.int .i64 r.l,.slice xa r.r.length xc,.int .i64 r.lv,.int .i64 r.a] 47 (0,0))/\(o.set i (r.r.length:Int))[i]?=some (r.r.length:Int)) :=
      ⟨y2,(Below.heap_setCell _ _ _ _ (show X≠u from qr ⟨_,D.out.2⟩ (qx D.out.1.ym.mis rfl) (by decide))).trans D.out.2,List.getElem?_set_self b0⟩
     generalize o[i]=z0 at f3;clear y2 D b0
     obtain⟨K,N⟩:∃K,Hid (r.r.length=K):=⟨_,rfl⟩
     rw[N.out]at f2 g1 g2 v k4 l1
     go_upto_if 47 with fail
     generalize T.setCell ⟨u,i,none⟩ (.int .i64 (K:Int))=V2 at v g1 g2 ⊢;clear f1 f2 f3 f4 g1 g2
     go_cut [27] from 27 to 73 (fun s27 wd=>s27=.int .i64 (i:Int)/\Hid ((∃q s t fd m o f,Y1 w wd h S p B u n i (i+1) 0 q s t fd m o f)/\wd.heap[X]?=some (.cells #[.int .i64 r.l,.slice xa K xc,.int .i64 r.lv,.int .i64 r.a] 47 (0,0))))
     case first =>
      by_cases i6:K=0
      ·subst i6
       have m3:V2.cell? ⟨p.b3,0,none⟩=some (.pointer (some ⟨p.mb,0,none⟩)):=by rw[qe v.out.1.ym.yb.bm];rfl
       have m7:V2.cell? ⟨X,0,none⟩=some (.int .i64 (xl:Int)):=by rw[qe v.out.2.1,O.out.1];rfl
       have I:r.r=[]:=List.eq_nil_of_length_eq_zero N.out;have h6:Der S xl:=Der.rule i r xl O.out.2.2.2 HR.out.1 O.out.1 (fun y hy=>by rw[I]at hy;cases hy)
       have HD:Hid (Der S xl/\r.r=[]):=⟨h6,I⟩
       clear h6 I;go_wp2_with fail;refine(j7 V2 w.heap.size p.mb p.fb s n xl q fd m v.out.1.ym.yb.mrk v.out.1.ok O.out.2.2.1 hn v.out.1.ym.yb.bel.size).mono ?_;rintro e V3 ⟨rfl,l2,l3,a6,a0⟩
       have L:Hid ((∃q s t fd m o f,Y1 w V3 h S p B u n i (i+1) 0 q s t fd m o f)/\V3.heap[X]?=some (.cells #[.int .i64 r.l,.slice xa 0 xc,.int .i64 r.lv,.int .i64 r.a] 47 (0,0))):=by
        obtain⟨t1,t2,t3⟩:=v.out.1.mark O.out.2.2.1 HD.out.1 a6 a0;refine⟨⟨_,_,_,_,_,_,_,t1.told HR.out.1 (by rw[N.out];exact v.out.2.2) (fun i2 _ i8=>?_)⟩,?_⟩
        ·have k7:=O.out.1;rw[i8]at k7
         have:i2=xl:=by omega
         rw[this];exact t2
        ·rw[a0.1.block X (Array.getElem?_eq_some_iff.1 v.out.2.1).1 (v.out.1.ym.yb.mrk.notMF ⟨_,v.out.2.1⟩ (by decide) (by decide) (by decide))];exact v.out.2.1
       clear a6 a0 m3 m7;go_wp2_with fail;go_meet;exact⟨rfl,L⟩
      ·have l6:((K:Int) == 0)=false:=by
        have:(K:Int)≠0:=by omega
        simpa using this
       have L:Hid ((∃q s t fd m o f,Y1 w V2 h S p B u n i (i+1) 0 q s t fd m o f)/\V2.heap[X]?=some (.cells #[.int .i64 r.l,.slice xa K xc,.int .i64 r.lv,.int .i64 r.a] 47 (0,0))) :=
        ⟨⟨_,_,_,_,_,_,_,v.out.1.told HR.out.1 (by rw[N.out];exact v.out.2.2) (fun i2 I _=>by have:=N.out;rw[I]at this;simp at this;omega)⟩,v.out.2.1⟩
       go_wp2_with fail;go_meet;exact⟨rfl,L⟩
     case rest =>
      obtain⟨rfl,J2⟩:=hcut
      obtain⟨w2,l9⟩:∃w2,w2=wc:=⟨_,rfl⟩
      subst wc
      have m1:w2.cell? ⟨X,1,none⟩=some (.slice xa K xc):=by rw[qe J2.out.2];rfl
      clear v;go_wp2_with fail;clear m1
      go_loopg [55] K (fun kx s55 wr=>∃k:Nat,s55=.int .i64 k/\k<=K/\K - k<=kx/\Hid (∃q s t fd m o f,Y1 w wr h S p B u n i (i+1) k q s t fd m o f))
      case atStart=>exact⟨0,rfl,Nat.zero_le _,by omega,(J2.out.1:∃q s t fd m o f,Y1 w w2 h S p B u n i (i+1) 0 q s t fd m o f)⟩
      case round =>
       clear J2;obtain⟨k,rfl,hk,l7,J⟩:=hrel
       by_cases h8:k<K
       ·have d8:(k:Int)<(K:Int):=by omega
        obtain⟨q,s,t,fd,m,o,f,y⟩:=J.out
        obtain⟨z,hz⟩:∃z,r.r[k]?=some z:=⟨r.r[k]'(by rw[N.out];exact h8),List.getElem?_eq_getElem _⟩
        obtain⟨b2,o2,l0,q1⟩:=vj (HR.out.2.below y.ym.yb.bel) hz;subst l0
        have i0:z<n:=by rw[C.out.2.2];exact(C.out.1.rr r (List.mem_of_getElem? HR.out.1)).2 z (List.mem_of_getElem? hz)
        obtain⟨c0,c1,c2,c3,c4,c5,c6,P⟩:=sbox y.ym.yb.bs;rw[M.out,A.out]at P
        have HY:Hid (Y1 w wr h S p B u n i (i+1) k q s t fd m o f/\(rgt S i)[k]?=some z):=⟨y,by rw[qj4 HR.out.1];exact hz⟩
        clear y hz J;go_wp2_with fail;refine(a4.out _ _ i0).mono ?_;rintro e V4 ⟨rfl,Y⟩;have y4:=(HY.out.1.below Y).below (qk V4);obtain⟨qa,qm,qc,g,c,W',q2,q3,q4,c8,d1,f1,d5,n4,n5,y5⟩:=y4.push O.out.2.2.2 HY.out.2 i0 (by omega)
        have q5:V4.cell? ⟨p.b5,0,none⟩=some (.slice (some ⟨p.wb,0,none⟩) n n):=by
         have:=(HY.out.1.below Y).ym.yb.bw;rw[y4.wl]at this;rw[qe this];rfl
        have q2:V4.cell? ⟨p.wb,z,none⟩=some (.slice qa qm qc):=q2;have f0:(Builtin.append_ #[26,26] 26 #[.slice qa qm qc,.slice (some ⟨V4.heap.size,0,none⟩) 1 1]).run Tryz.prog (V4.alloc (.cells #[.int .i64 (i:Int)] 3)).drew=.ok (.slice (some ⟨g,0,none⟩) (qm+1) c) W':=c8
        have L:Hid (∃q s t fd m o f,Y1 w (W'.setCell ⟨p.wb,z,none⟩ (.slice (some ⟨g,0,none⟩) (qm+1) c)) h S p B u n i (i+1) (k+1) q s t fd m o f):=⟨_,_,_,_,_,_,_,y5⟩
        clear y4 y5 Y HY c8 c0 c1 c2 c3 c4 c5 c6 P q1
        go_upto_region 15 with fail
        have m9:=qo q5 (.cells #[.int .i64 (i:Int)] 3);have m8:=qo q2 (.cells #[.int .i64 (i:Int)] 3)
        have l5:(z:Int)<(n:Int):=by omega
        go_region_law(refine zc rfl (.tmp 67) (.tmp 69) rfl rfl (by simp[Act.eval]) (by simp[Act.eval]) f0 ?_)
        all_goals
         go_wp2_with fail;go_roundg (K - (k+1))
         case measure=>omega
         case rel=>exact⟨k+1,by simp,by omega,Nat.le_refl _,L⟩
       ·have d8:¬(k:Int)<(K:Int):=by omega
        have L:Hid (∃q s t fd m o f,Y1 w wr h S p B u n (i+1) (i+1) 0 q s t fd m o f):=by
         obtain⟨q,s,t,fd,m,o,f,y⟩:=J.out;exact⟨q,s,t,fd,m,o,f,y.next (by rw[qj4 HR.out.1,N.out];omega) (by omega)⟩
        clear J;go_wp2_with fail;go_roundg (d - (i+1))
        case measure=>omega
        case rel=>exact⟨i+1,by simp,by omega,Nat.le_refl _,L⟩
   ·have a5:¬(i:Int)<(d:Int):=by omega
    have L:Hid (∃q s t fd m o f,Y1 w wr h S p B u n d d 0 q s t fd m o f):=by
     have:i=d:=by omega
     subst this;exact J.out
    clear J;go_wp2_with fail;go_meet;exact L
 case rest =>
  obtain⟨w8,m2⟩:∃w8,w8=wc:=⟨_,rfl⟩
  subst wc;obtain⟨q,s,t,fd,m,o,f,y⟩:=hcut.out;obtain⟨c0,-,-,-,-,-,-,-⟩:=sbox y.ym.yb.bs
  have m3:w8.cell? ⟨p.b3,0,none⟩=some (.pointer (some ⟨p.mb,0,none⟩)):=by rw[qe y.ym.yb.bm];rfl
  have m0:w8.cell? ⟨p.mb,0,none⟩=some (.slice (some ⟨p.fb,0,none⟩) n n):=by rw[qe y.ym.yb.mrk.box,y.ok.len];rfl
  have l8:S.tk<n:=by have:=C.out.2.2;omega
  have l4:(S.tk:Int)<(n:Int):=by omega
  have k0:min (S.tk:Int) (n:Int)=(S.tk:Int):=by omega
  have HY:Hid (Y1 w w8.drew h S p B u n d d 0 q s t fd m o f):=y.below (qk w8);clear y hcut H7 HC a4 a3 a2
  go_upto_region 18 with fail
  go_cut [81,82] (fun s81 s82 wd=>s81=.int .i64 (S.tk:Int)/\s82=.int .i64 0/\wd=w8.drew)
  case first =>
   go_region
   all_goals
    go_wp2_with fail;go_meet;exact⟨rfl,rfl,rfl⟩
  case rest =>
   obtain⟨rfl,rfl,k6⟩:=hcut;subst k6;clear c0 m3 m0 k0;go_wp2_with fail
   go_loopg [82] S.tk (fun kx s82 wr=>∃k:Nat,s82=.int .i64 k/\k<=S.tk/\S.tk - k<=kx/\Hid (∃q s t fd m o f,Y1 w wr h S p B u n d d 0 q s t fd m o f/\∀x,x<k->isF fd x=true))
   case atStart=>exact⟨0,rfl,Nat.zero_le _,by omega,(⟨_,_,_,_,_,_,_,HY.out,fun x E=>absurd E (Nat.not_lt_zero _)⟩:∃q s t fd m o f,Y1 w w8.drew h S p B u n d d 0 q s t fd m o f/\∀x,x<0->isF fd x=true)⟩
   case round =>
    clear HY;obtain⟨k,rfl,hk,hg,J⟩:=hrel;obtain⟨q,s,t,fd,m,o,f,y,E⟩:=J.out
    have m3:wr.cell? ⟨p.b3,0,none⟩=some (.pointer (some ⟨p.mb,0,none⟩)):=by rw[qe y.ym.yb.bm];rfl
    have G:Hid (Y1 w wr h S p B u n d d 0 q s t fd m o f/\∀x,x<k->isF fd x=true):=⟨y,E⟩
    clear y E J
    by_cases b6:k<S.tk
    ·have a5:(k:Int)<(S.tk:Int):=by omega
     go_wp2_with fail;refine(j7 wr w.heap.size p.mb p.fb s n k q fd m G.out.1.ym.yb.mrk G.out.1.ok (by omega) hn G.out.1.ym.yb.bel.size).mono ?_;rintro e V3 ⟨rfl,l2,l3,a6,a0⟩
     have L:Hid (∃q s t fd m o f,Y1 w V3 h S p B u n d d 0 q s t fd m o f/\∀x,x<k+1->isF fd x=true):=by
      obtain⟨t1,t2,t3⟩:=G.out.1.mark (x:=k) (by omega) (Der.tok k b6) a6 a0;refine⟨_,_,_,_,_,_,_,t1,fun x E=>?_⟩
      rcases Nat.lt_or_ge x k with h1 | h1
      ·exact t3 x (G.out.2 x h1)
      ·have:x=k:=by omega
       subst this;exact t2
     clear a6 a0 m3;go_wp2_with fail;go_roundg (S.tk - (k+1))
     case measure=>omega
     case rel=>exact⟨k+1,by simp,by omega,Nat.le_refl _,L⟩
    ·have a5:¬(k:Int)<(S.tk:Int):=by omega
     have HI:Hid (IY w h S p B u n t f wr q s fd m):=by
      have y1:=G.out.1;rw[<-A.out]at y1;exact qpq y1 (fun x E=>G.out.2 x (by omega))
     have HW:Hid (f.length=n/\Wts S S.rs.length f/\∀(x:Nat) (l:List Nat),f[x]?=some l->l.length<=100000):=by
      have y1:=G.out.1;rw[<-A.out]at y1;exact⟨y1.wl,qpp y1.wts,fun x l hl=>by have:=y1.rows x l hl;rw[A.out]at this;omega⟩
     clear G;go_wp2_with fail;refine(qb5 78 #[.pointer (some ⟨p.b5,0,none⟩),.pointer (some ⟨B,0,none⟩),.pointer (some ⟨p.b3,0,none⟩),.pointer (some ⟨p.b1,0,none⟩)] qq5 w.heap.size p.mb n hn (IY w h S p B u n t f) qq6 (qq7 C.out.1 C.out.2.1 C.out.2.2 HW.out.1 HW.out.2.1 HW.out.2.2) wr q s fd m HI.out).mono ?_;rintro e V5 ⟨rfl,n2,n3,a9,m6,y5,b8,-,g9,h4,g7,h2⟩
     have m5:V5.cell? ⟨p.b3,0,none⟩=some (.pointer (some ⟨p.mb,0,none⟩)):=by rw[qe y5.yb.bm];rfl
     have m4:V5.cell? ⟨p.mb,0,none⟩=some (.slice (some ⟨p.fb,0,none⟩) n n):=by rw[qe y5.yb.mrk.box,b8.len];rfl
     have L:Hid (a9.length=n/\V5.ownsRow w.heap.size 4 1 (.slice (some ⟨p.fb,0,none⟩) n n) n (booC a9)/\ko (Der S) a9/\Below w.heap.size w V5):=by
      have h1:=y5.yb.mrk.fnd;rw[b8.len]at h1;exact⟨b8.len,h1,qml g9 h4 g7 h2,y5.yb.bel⟩
     clear y5 b8 g9 h4 g7 h2 m3;go_wp2_with fail;go_ret;exact⟨p.fb,a9,rfl,L.out⟩
structure R1 (w W:World) (h:SHd) (S:Sp) (p:YP) (n i:Nat) (va:Option Addr) (vc:Nat) (vs:List (Option Addr × Nat)) (wt:List (List Nat)):Prop where
 yb:YB w W h S p va vc vs (List.replicate n false) [] wt
 wl:wt.length=n
 rls:Rls S i wt
 rows:∀(x:Nat) (l:List Nat),wt[x]?=some l->l.length<=i
theorem R1.below{w W a:World}{h:SHd}{S:Sp}{p:YP}{n i:Nat}{b:Option Addr}{c:Nat}{d:List (Option Addr × Nat)}{f:List (List Nat)}(y:R1 w W h S p n i b c d f)(g:Below W.heap.size W a):R1 w a h S p n i b c d f :=
 ⟨y.yb.below g,y.wl,y.rls,y.rows⟩
theorem qpr(S:Sp)(n:Nat):Rls S 0 (List.replicate n []):=by
 intro x l b j;have a:=List.mem_of_getElem? b;rw[List.mem_replicate]at a;rw[a.2]
 constructor
 ·intro h;cases h
 ·rintro⟨-,h,-⟩;omega
theorem R1.skip{w W:World}{h:SHd}{S:Sp}{p:YP}{n:Nat}{b:Option Addr}{c:Nat}{d:List (Option Addr × Nat)}{f:List (List Nat)}(y:R1 w W h S p n 0 b c d f):R1 w W h S p n 1 b c d f :=
 ⟨y.yb,y.wl,fun x l a j=>(y.rls x l a j).trans ⟨fun h=>by omega,fun h=>by omega⟩,fun x l a=>Nat.le_succ_of_le (y.rows x l a)⟩
theorem qps{S:Sp}{i x:Nat}{f:List (List Nat)}{l:List Nat}{r:SR}(h:Rls S i f)(t:0<i)(o:S.rs[i]?=some r)(p:r.l=(x:Int))(n:f[x]?=some l):Rls S (i+1) (f.set x (l++[i])):=by
 intro y m d j;rw[List.getElem?_set]at d;have k:x<f.length:=(List.getElem?_eq_some_iff.1 n).1
 by_cases s:x=y
 ·subst s;rw[if_pos rfl,if_pos k]at d
  cases d
  rw[List.mem_append,List.mem_singleton,h x l n j]
  constructor
  ·rintro(⟨b,g,a⟩ | rfl)
   ·exact⟨b,by omega,a⟩
   ·exact⟨t,by omega,r,o,p⟩
  ·rintro⟨b,g,a⟩
   rcases Nat.lt_or_ge j i with c | c
   ·exact .inl ⟨b,c,a⟩
   ·exact .inr (by omega)
 ·rw[if_neg s]at d;rw[h y m d j]
  constructor
  ·rintro⟨b,g,a⟩;exact⟨b,by omega,a⟩
  ·rintro⟨b,g,q,a,c⟩
   rcases Nat.lt_or_ge j i with h5 | h5
   ·exact⟨b,h5,q,a,c⟩
   ·have:j=i:=by omega
    subst this;rw[o]at a
    cases a
    rw[p]at c;omega
theorem R1.push{w W:World}{h:SHd}{S:Sp}{p:YP}{n i x:Nat}{G:Option Addr}{H:Nat}{O:List (Option Addr × Nat)}{C:List (List Nat)}{r:SR}(y:R1 w W h S p n i G H O C)(K:0<i)(L:S.rs[i]?=some r)(M:r.l=(x:Int))(v:x<n)(U:i<10000):
  ∃A o t g c b,W.cell? ⟨p.wb,x,none⟩=some (.slice A o t)/\o<=t/\t<=9223372036854775807/\(Builtin.append_ #[26,26] 26 #[.slice A o t,.slice (some ⟨W.heap.size,0,none⟩) 1 1]).run Tryz.prog (W.alloc (.cells #[.int .i64 (i:Int)] 3))=.ok (.slice (some ⟨g,0,none⟩) (o+1) c) b /\
   b.cell? ⟨p.wb,x,none⟩=some (.slice A o t)/\b.frozen? ⟨p.wb,x,none⟩=false/\b.cell? ⟨p.b5,0,none⟩=some (.slice (some ⟨p.wb,0,none⟩) n n)/\Kept (fun k=>Loc W k 26\/Loc W k 3) W b /\
   ∃B D,R1 w (b.setCell ⟨p.wb,x,none⟩ (.slice (some ⟨g,0,none⟩) (o+1) c)) h S p n (i+1) G H B D:=by
 obtain⟨l,f⟩:∃l,C[x]?=some l:=⟨C[x]'(by rw[y.wl];exact v),List.getElem?_eq_getElem _⟩
 obtain⟨q,u,c1,-⟩:=y.yb.grd.at f;have F:=y.rows x l f;obtain⟨g,c,b,d,-,-,N,-,-,-⟩:=y.yb.grd.add (i:=i) y.yb.bel.size f u (by omega);obtain⟨R,c2,Q,a,I,J,E,P,T,V⟩:=y.yb.push (i:=i) f u (by omega);rw[d]at a
 injection a with e1 e2
 cases e1
 subst e2;have s:=z8 (y.yb.grd.row x q l u f);rw[y.wl]at E;refine⟨q.1,l.length,q.2,g,c,b,c1,s.1,s.2,d,I,J,E,N.weaken (fun k e=>.inr (y.yb.grd.lt ⟨x,q,u,e⟩).2.2),_,_,P,by rw[List.length_set];exact y.wl,qps y.rls K L M f,fun z m j=>?_⟩
 rw[List.getElem?_set]at j
 split at j
 ·split at j
  ·cases j
   rw[List.length_append];simp;omega
  ·cases j
 ·have:=y.rows z m j;omega
def IR (w:World) (h:SHd) (S:Sp) (p:YP) (n:Nat) (vs:List (Option Addr × Nat)) (wt:List (List Nat)) (W:World) (va:Option Addr) (vc:Nat) (fd:List Bool) (fr:List Nat):Prop :=
 YB w W h S p va vc vs fd fr wt/\MK n fd fr/\Clo S (prc fd fr) fd/\qd7 S fd/\isF fd S.st=true
theorem qq8{w:World}{h:SHd}{S:Sp}{p:YP}{n:Nat}{g:List (Option Addr × Nat)}{i:List (List Nat)}:∀W b c fd a,IR w h S p n g i W b c fd a->MK n fd a/\∃d,Mrk W w.heap.size p.mb d b c fd a:=by
 rintro W b c fd a ⟨y,f,-⟩;exact⟨f,p.fb,y.mrk⟩
theorem qq9{w:World}{h:SHd}{S:Sp}{p:YP}{n:Nat}{B:List (Option Addr × Nat)}{c:List (List Nat)}(G:WF S)(F:IsSp w h S)(D:n=S.tk+1+S.nt)(H:c.length=n)(N:Rls S S.rs.length c)(f:∀(x:Nat) (l:List Nat),c[x]?=some l->l.length<=100000):
  ∀W o q fd d x,IR w h S p n B c W o q fd (d++[x])->Calls Tryz.prog 70 (#[.int .i64 (x:Int)]++#[.pointer (some ⟨p.b5,0,none⟩),.pointer (some ⟨p.b1,0,none⟩),.pointer (some ⟨p.b3,0,none⟩)]) (popW W p.mb o d.length q) fun e J=>e=.returned (.tuple #[])/\∃g k a b,IR w h S p n B c J g k a b/\lft n a b<lft n fd (d++[x]):=by
 rintro W o q fd d x ⟨y,hm,X,L,Y⟩;obtain⟨m1,P,I,Q⟩:=hm.pop
 obtain⟨l,t⟩:∃l,c[x]?=some l:=⟨c[x]'(by rw[H];exact Q),List.getElem?_eq_getElem _⟩
 have y1:LR w (popW W p.mb o d.length q) h S p B c n fd d l 0:=⟨o,q,fd,d,y.pop,Adds.refl m1,L,fun j i r y s=>absurd s (Nat.not_lt_zero _)⟩
 refine(qlb w _ h S p B c n x fd d l y1 G F D t (fun i Z=>?_) (L x I) (f x l t)).mono ?_
 ·obtain⟨U,-,V⟩:=(N x l t i).1 Z;exact⟨U,V⟩
 rintro e J ⟨rfl,g,k,a,b,y',A,R,T⟩;refine⟨rfl,g,k,a,b,⟨y',A.ok,?_,R,A.up _ Y⟩,?_⟩
 ·rw[A.pr];intro i r z u K v O E M;rw[qg5 I P z]at E
  by_cases m:z=x
  ·subst m;have C:i∈l:=(N z l t i).2 ⟨K,(List.getElem?_eq_some_iff.1 v).1,r,v,O⟩;obtain⟨j,s⟩:=List.getElem?_of_mem C;exact T j i r u (List.getElem?_eq_some_iff.1 s).1 s v M
  ·rw[if_neg m]at E;exact A.up u (X i r z u K v O E M)
 ·rw[qff A];exact qg6 Q I P
theorem qiz(w:World)(h:SHd)(S:Sp)(n:Nat)(b9:n=S.tk+1+S.nt)(H:WF S)(c8:IsSp w h S):
  Calls Tryz.prog 43 #[sv h S] w fun e U=>BRes w U n (Rch S) e:=by
 have hz:Szs S n:=by rw[b9];exact H.szs
 have hn:n<=1000:=by have:=H.tk;have:=H.nt;omega
 have g9:S.rs.length<=300:=H.nr
 have HC:Hid (∀V:World,Calls Tryz.prog 65 #[.agg (sC h S)] V fun e U=>e=.returned (.int .i64 (n:Int))/\Below V.heap.size V U):=fun V=>qa0 h S V n hz
 have a7:Hid (∀(V:World) (z:Nat),z<n->Calls Tryz.prog 67 #[.agg (sC h S),.int .i64 (z:Int)] V fun e U=>e=.returned (.bool true)/\Below V.heap.size V U):=fun V z I=>qaa h S V n z hz I
 have Y:Hid (∀(V:World) (z:Nat),z<n->S.tk<z->Calls Tryz.prog 66 #[.agg (sC h S),.int .i64 (z:Int)] V fun e U=>e=.returned (.bool true)/\Below V.heap.size V U):=fun V z I ht=>qed h S V n z hz I ht
 have X:Hid (∀(V:World),Calls Tryz.prog 66 #[.agg (sC h S),.int .i64 (-1)] V fun e U=>e=.returned (.bool false)/\Below V.heap.size V U):=fun V=>qe3 h S V
 have q:Hid (WF S/\IsSp w h S/\n=S.tk+1+S.nt):=⟨H,c8,b9⟩
 have b6:Below w.heap.size w (w.alloc (.cells (sC h S) 31)):=qb _ _;have a4:(w.alloc (.cells (sC h S) 31)).heap[w.heap.size]?=some (.cells (sC h S) 31 (0,0)):=heap_alloc_new _ _;obtain⟨rb,ro,-,-,O,-⟩:=c8.rl.at H.hd;have M:Hid (h.ra=some ⟨rb,ro,none⟩):=O;clear H c8 b9 hz;unfold sv sC;unfold sC at HC a7 Y X;rw[O]at HC a7 Y X ⊢;clear O
 obtain⟨D,o⟩:∃D,Hid (S.rs.length=D):=⟨_,rfl⟩
 rw[o.out]at HC a7 Y X g9 ⊢;go_enter Tryz.func43,Tryz.ntmps43
 go_upto_region 1 with fail
 have e0:w.alloc (.cells #[.int .i64 (S.tk:Int),.int .i64 (S.nt:Int),.int .i64 (S.st:Int),.int .i64 S.ex,.slice h.na S.nm.length h.nc,.slice h.la S.lv.length h.lc,.slice h.aa S.az.length h.ac,.slice (some ⟨rb,ro,none⟩) D h.rc] 31)=w.alloc (.cells (sC h S) 31):=by unfold sC;rw[M.out,o.out]
 rw[e0];generalize w.alloc (.cells (sC h S) 31)=W0 at b6 a4 ⊢
 obtain⟨b1,f0⟩:∃b1,Hid (b1=w.heap.size):=⟨_,rfl⟩
 rw[<-f0.out]at a4 ⊢;obtain⟨c0,c1,c2,c3,c4,c5,c6,T⟩:=sbox a4;rw[M.out,o.out]at T
 have b2:Hid (Below w.heap.size w W0/\W0.heap[b1]?=some (.cells (sC h S) 31 (0,0))):=⟨b6,a4⟩
 clear e0 b6 a4;go_wp2_with fail;refine(HC.out _).mono ?_;rintro e W1 ⟨rfl,s⟩
 have a6:Hid (Below w.heap.size w W1/\W1.heap[b1]?=some (.cells (sC h S) 31 (0,0))):=⟨qd b2.out.1 s,qf s b2.out.2⟩
 clear s b2;go_wp2_with fail;refine(qat W1 n hn).mono ?_;rintro e W2 ⟨P,fb,rfl,hM,b8⟩;clear c0 c1 c2 c3 c4 c5 c6 T;have h3:Below W2.heap.size W2 (W2.alloc (.cells #[.pointer (some ⟨P,0,none⟩)] 94)):=qb _ _
 have HA:Hid (Below w.heap.size w (W2.alloc (.cells #[.pointer (some ⟨P,0,none⟩)] 94))/\(W2.alloc (.cells #[.pointer (some ⟨P,0,none⟩)] 94)).heap[b1]?=some (.cells (sC h S) 31 (0,0))/\(W2.alloc (.cells #[.pointer (some ⟨P,0,none⟩)] 94)).heap[W2.heap.size]?=some (.cells #[.pointer (some ⟨P,0,none⟩)] 94 (0,0))/\Mrk (W2.alloc (.cells #[.pointer (some ⟨P,0,none⟩)] 94)) w.heap.size P fb none 0 (List.replicate n false) []) :=
  ⟨qd (qd a6.out.1 b8) h3,qf h3 (qf b8 a6.out.2),heap_alloc_new _ _,(hM.mono a6.out.1.size).keep (fun k hk=>h3.block k (hM.loc hk).2.1)⟩
 clear hM b8 a6 h3
 go_upto_region 2 with fail
 obtain⟨b3,f2⟩:∃b3,Hid (b3=W2.heap.size):=⟨_,rfl⟩
 rw[<-f2.out]at HA ⊢;generalize W2.alloc (.cells #[.pointer (some ⟨P,0,none⟩)] 94)=Z at HA ⊢;clear f2;have g8:=j6 q.out.2.1.rl;rw[o.out]at g8;obtain⟨W6,g7,f7,f4⟩:=qcj Z w.heap.size n hn HA.out.1.size
 have d3:Z.cell? ⟨b3,0,none⟩=some (.pointer (some ⟨P,0,none⟩)):=by rw[qe HA.out.2.2.1];rfl
 have dm:Z.cell? ⟨P,0,none⟩=some (.slice (some ⟨fb,0,none⟩) n n):=by rw[qe HA.out.2.2.2.box,List.length_replicate];rfl
 have h7:Below W6.heap.size W6 (W6.alloc (.cells #[.slice (some ⟨Z.heap.size,0,none⟩) n n] 38)):=qb _ _
 have H7:Hid (R1 w (W6.alloc (.cells #[.slice (some ⟨Z.heap.size,0,none⟩) n n] 38)) h S ⟨b1,b3,W6.heap.size,P,fb,Z.heap.size⟩ n 0 none 0 (List.replicate n (none,0)) (List.replicate n [])):=by
  obtain⟨q1,q2,q3,q4⟩:=HA.out;have hb:Below Z.heap.size Z (W6.alloc (.cells #[.slice (some ⟨Z.heap.size,0,none⟩) n n] 38)):=qd f4 h7;refine⟨⟨qd q1 hb,qf hb q2,qf hb q3,?_,q4.keep (fun k hk=>hb.block k (q4.loc hk).2.1),f7.below h7,fun k hk=>(qgl hk).elim⟩,by simp,qpr S n,fun x l hl=>?_⟩
  ·simp only[List.length_replicate];exact heap_alloc_new _ _
  ·have:=List.mem_of_getElem? hl;rw[List.mem_replicate]at this;rw[this.2];simp
 clear f7 f4 h7 HA
 go_upto_region 3 with fail
 clear g7 d3 dm;generalize W6.alloc (.cells #[.slice (some ⟨Z.heap.size,0,none⟩) n n] 38)=W7 at H7 ⊢;generalize W6.heap.size=b5 at H7 ⊢;generalize Z.heap.size=wb at H7 ⊢
 obtain⟨p,HP⟩:∃p:YP,Hid (p=⟨b1,b3,b5,P,fb,wb⟩):=⟨_,rfl⟩
 have p1:b1=p.b1:=by rw[HP.out]
 have p3:b3=p.b3:=by rw[HP.out]
 have p5:b5=p.b5:=by rw[HP.out]
 have pm:P=p.mb:=by rw[HP.out]
 have pf:fb=p.fb:=by rw[HP.out]
 have pw:wb=p.wb:=by rw[HP.out]
 rw[<-HP.out]at H7;clear HP f0;subst p1 p3 p5 pm pf pw;obtain⟨-,-,-,-,-,-,-,T⟩:=sbox H7.out.yb.bs;rw[M.out,o.out]at T
 go_upto_block 0 with fail
 clear T
 go_cut [19] (fun s19 wd=>Hid (∃B C A m,R1 w wd h S p n D B C A m))
 case first =>
  go_wp2_with fail
  go_loopg [19] D (fun kx s19 wr=>∃i:Nat,s19=.int .i64 i/\i<=D/\D - i<=kx/\Hid (∃B C A m,R1 w wr h S p n i B C A m))
  case atStart=>exact⟨0,rfl,Nat.zero_le _,by omega,(⟨_,_,_,_,H7.out⟩:∃B C A m,R1 w W7 h S p n 0 B C A m)⟩
  case round =>
   clear H7;obtain⟨i,rfl,hi,hg,J⟩:=hrel
   by_cases g6:i<D
   ·have f9:(i:Int)<(D:Int):=by omega
    obtain⟨B,C,A,m,y⟩:=J.out
    obtain⟨r,hr⟩:∃r,S.rs[i]?=some r:=⟨S.rs[i]'(by rw[o.out];exact g6),List.getElem?_eq_getElem _⟩
    obtain⟨i1,i2,xa,xc,O,d0,d1,d2,d3,h2⟩:=q.out.2.1.rl.at hr;rw[M.out]at O
    cases O
    have d0:=qj y.yb.bel d0;have d1:=qj y.yb.bel d1;have d2:=qj y.yb.bel d2;have d3:=qj y.yb.bel d3;have HR:Hid (S.rs[i]?=some r):=hr;have hv:Below wr.heap.size wr (wr.alloc (.cells #[.int .i64 r.l,.slice xa r.r.length xc,.int .i64 r.lv,.int .i64 r.a] 47)):=qb _ _
    have Q:Hid (R1 w (wr.alloc (.cells #[.int .i64 r.l,.slice xa r.r.length xc,.int .i64 r.lv,.int .i64 r.a] 47)) h S p n i B C A m/\(wr.alloc (.cells #[.int .i64 r.l,.slice xa r.r.length xc,.int .i64 r.lv,.int .i64 r.a] 47)).heap[wr.heap.size]?=some (.cells #[.int .i64 r.l,.slice xa r.r.length xc,.int .i64 r.lv,.int .i64 r.a] 47 (0,0))):=⟨y.below hv,heap_alloc_new _ _⟩
    clear y J hr h2 hv
    go_upto_region 6 with fail
    obtain⟨R,f3⟩:∃R,Hid (R=wr.heap.size):=⟨_,rfl⟩
    rw[<-f3.out]at Q ⊢;generalize wr.alloc (.cells #[.int .i64 r.l,.slice xa r.r.length xc,.int .i64 r.lv,.int .i64 r.a] 47)=V at Q ⊢;clear f3 d0 d1 d2 d3;obtain⟨c0,c1,c2,c3,c4,c5,c6,T⟩:=sbox Q.out.1.yb.bs
    have e0:V.cell? ⟨R,0,none⟩=some (.int .i64 r.l):=by rw[qe Q.out.2];rfl
    rw[M.out,o.out]at T
    by_cases g4:i=0
    ·subst g4
     have g5:r.l=-1:=by
      have h1:=q.out.1.hd;rw[HR.out]at h1
      cases h1
      rfl
     rw[g5]at e0;go_wp2_with fail;refine(X.out _).mono ?_;rintro e V1 ⟨rfl,s⟩
     have HF:Hid (∃B C A m,R1 w V1 h S p n 1 B C A m):=⟨B,C,A,m,(Q.out.1.below s).skip⟩
     clear s c0 c1 c2 c3 c4 c5 c6 T e0;go_wp2_with fail;go_roundg (D - (0+1))
     case measure=>omega
     case rel=>exact⟨1,by simp,by omega,by omega,HF⟩
    ·obtain⟨L,a5,h4,d4⟩:=q.out.1.rl i r (by omega) HR.out;rw[<-q.out.2.2]at d4;rw[a5]at e0;go_wp2_with fail;refine(Y.out _ _ d4 h4).mono ?_;rintro e V4 ⟨rfl,F⟩;have G:=qf F Q.out.2;have y4:=(Q.out.1.below F).below (qk V4);obtain⟨qa,qm,qc,g,c,W',q2,q3,q4,b0,d1,f1,d5,j,i7,i8,y5⟩:=y4.push (by omega) HR.out a5 d4 (by omega)
     have q5:V4.cell? ⟨p.b5,0,none⟩=some (.slice (some ⟨p.wb,0,none⟩) n n):=by
      have:=(Q.out.1.below F).yb.bw;rw[y4.wl]at this;rw[qe this];rfl
     have q7:V4.cell? ⟨R,0,none⟩=some (.int .i64 (L:Int)):=by rw[qe G,a5];rfl
     have a9:W'.heap[R]?=some (.cells #[.int .i64 r.l,.slice xa r.r.length xc,.int .i64 r.lv,.int .i64 r.a] 47 (0,0)):=by
      rw[j.block R (Array.getElem?_eq_some_iff.1 G).1 (fun e=>?_)]
      ·exact G
      ·rcases e with e | e
       ·exact qr ⟨_,G⟩ e (by decide) rfl
       ·exact qr ⟨_,G⟩ e (by decide) rfl
     have n5:p.b5≠p.wb:=qr ⟨_,(Q.out.1.below F).yb.bw⟩ (Q.out.1.below F).yb.grd.loc.2.2 (by decide);have n7:R≠p.wb:=qr ⟨_,G⟩ (Q.out.1.below F).yb.grd.loc.2.2 (by decide)
     have d7:W'.cell? ⟨R,0,none⟩=some (.int .i64 (L:Int)):=by rw[qe a9,a5];rfl
     have q2:V4.cell? ⟨p.wb,L,none⟩=some (.slice qa qm qc):=q2;have a0:(Builtin.append_ #[26,26] 26 #[.slice qa qm qc,.slice (some ⟨V4.heap.size,0,none⟩) 1 1]).run Tryz.prog (V4.alloc (.cells #[.int .i64 (i:Int)] 3)).drew=.ok (.slice (some ⟨g,0,none⟩) (qm+1) c) W':=b0
     have HF:Hid (∃B C A m,R1 w (W'.setCell ⟨p.wb,L,none⟩ (.slice (some ⟨g,0,none⟩) (qm+1) c)) h S p n (i+1) B C A m):=⟨_,_,_,_,y5⟩
     clear y4 y5 F Q b0 c0 c1 c2 c3 c4 c5 c6 T e0 G a9 j a5
     go_upto_region 7 with fail
     have d8:=qo q5 (.cells #[.int .i64 (i:Int)] 3);have i0:=qo q2 (.cells #[.int .i64 (i:Int)] 3);have d9:=qo q7 (.cells #[.int .i64 (i:Int)] 3)
     have h5:(L:Int)<(n:Int):=by omega
     have s5:(W'.setCell ⟨p.wb,L,none⟩ (.slice (some ⟨g,0,none⟩) (qm+1) c)).cell? ⟨p.b5,0,none⟩=some (.slice (some ⟨p.wb,0,none⟩) n n):=qz d5 n5;have s7:(W'.setCell ⟨p.wb,L,none⟩ (.slice (some ⟨g,0,none⟩) (qm+1) c)).cell? ⟨R,0,none⟩=some (.int .i64 (L:Int)):=qz d7 n7;refine wp_region_held_drew (S:=fun U=>U.cell? ⟨p.b5,0,none⟩=some (.slice (some ⟨p.wb,0,none⟩) n n)/\U.cell? ⟨R,0,none⟩=some (.int .i64 (L:Int))) (by kernel_rfl) ⟨q5,q7⟩ (fun d=>?_);refine wpAnyH_take (i:=0) (v:=.slice (some ⟨p.wb,0,none⟩) n n) rfl (by kernel_rfl) (by kernel_rfl) (by kernel_rfl) (fun _ _ _ h=>h) (Or.inl ⟨by rfl,fun w9 f=>?_⟩) d ?_
     ·obtain⟨t,u⟩:=f
      go_simp
     simp only[Act.put];refine wpAnyH_take (i:=1) (v:=.pointer (some ⟨R,0,none⟩)) rfl (by kernel_rfl) (by kernel_rfl) (by kernel_rfl) (fun _ _ _ h=>h) (Or.inl ⟨by rfl,fun w9 f=>?_⟩) d ?_
     ·obtain⟨t,u⟩:=f
      go_simp
     simp only[Act.put];refine wpAnyH_take (i:=2) (v:=.int .i64 (L:Int)) rfl (by kernel_rfl) (by kernel_rfl) (by kernel_rfl) (fun _ _ _ h=>h) (Or.inl ⟨by rfl,fun w9 f=>?_⟩) d ?_
     ·obtain⟨t,u⟩:=f
      go_simp
     simp only[Act.put];refine wpAnyH_take (i:=3) (v:=.slice (some ⟨p.wb,0,none⟩) n n) rfl (by kernel_rfl) (by kernel_rfl) (by kernel_rfl) (fun _ _ _ h=>h) (Or.inl ⟨by rfl,fun w9 f=>?_⟩) d ?_
     ·obtain⟨t,u⟩:=f
      go_simp
     simp only[Act.put];refine wpAnyH_take (i:=4) (v:=.pointer (some ⟨R,0,none⟩)) rfl (by kernel_rfl) (by kernel_rfl) (by kernel_rfl) (fun _ _ _ h=>h) (Or.inl ⟨by rfl,fun w9 f=>?_⟩) d ?_
     ·obtain⟨t,u⟩:=f
      go_simp
     simp only[Act.put];refine wpAnyH_take (i:=5) (v:=.int .i64 (L:Int)) rfl (by kernel_rfl) (by kernel_rfl) (by kernel_rfl) (fun _ _ _ h=>h) (Or.inl ⟨by rfl,fun w9 f=>?_⟩) d ?_
     ·obtain⟨t,u⟩:=f
      go_simp
     simp only[Act.put];refine wpAnyH_take (i:=6) (v:=.pointer (some ⟨p.wb,L,none⟩)) rfl (by kernel_rfl) (by kernel_rfl) (by kernel_rfl) (fun _ _ _ h=>h) (Or.inl ⟨by rfl,fun w9 f=>?_⟩) d ?_
     ·obtain⟨t,u⟩:=f
      go_simp
     simp only[Act.put];refine wpAnyH_take (i:=8) (v:=.int .i64 (i:Int)) rfl (by kernel_rfl) (by kernel_rfl) (by kernel_rfl) (fun _ _ _ h=>h) (Or.inl ⟨by rfl,fun w9 f=>?_⟩) d ?_
     ·obtain⟨t,u⟩:=f
      go_simp
     simp only[Act.put];refine wpAnyH_ready (rs:=[7,9]) (by kernel_rfl) (by simp) ?_;refine AllReadyH.cons rfl (fun K j=>?_) (AllReadyH.cons rfl (fun K j=>?_) AllReadyH.nil)
     ·go_simp
      refine j.out _ _ ⟨q5,q7⟩ (fun d=>?_);clear j K;refine wpAnyH_ready (rs:=[9]) (by kernel_rfl) (by simp) ?_;refine AllReadyH.cons rfl (fun K j=>?_) AllReadyH.nil
      go_simp
      refine j.out _ _ ⟨d8,d9⟩ (fun d=>?_);clear j K;refine wpAnyH_ready (rs:=[10]) (by kernel_rfl) (by simp) ?_;refine AllReadyH.cons rfl (fun K j=>?_) AllReadyH.nil;refine zc rfl (.tmp 35) (.tmp 37) rfl rfl (by simp[Act.eval]) (by simp[Act.eval]) a0 (j.out _ _ ⟨d5,d7⟩ (fun d=>?_));simp only[Act.put];clear j K;refine wpAnyH_take (i:=11) (v:=.pointer (some ⟨p.wb,L,none⟩)) rfl (by kernel_rfl) (by kernel_rfl) (by kernel_rfl) (fun _ _ _ h=>h) (Or.inl ⟨by rfl,fun w9 f=>?_⟩) d ?_
      ·obtain⟨t,u⟩:=f
       go_simp
      simp only[Act.put];refine wpAnyH_ready (rs:=[12]) (by kernel_rfl) (by simp) ?_;refine AllReadyH.cons rfl (fun K j=>?_) AllReadyH.nil
      go_simp
      refine j.out _ _ ⟨s5,s7⟩ (fun d=>?_);clear j K;refine wpAnyH_done (by kernel_rfl) ?_ _;go_wp2_with fail;go_roundg (D - (i+1))
      case measure=>omega
      case rel=>exact⟨i+1,by simp,by omega,Nat.le_refl _,HF⟩
     ·go_simp
      refine j.out _ _ ⟨d8,d9⟩ (fun d=>?_);clear j K;refine wpAnyH_ready (rs:=[7]) (by kernel_rfl) (by simp) ?_;refine AllReadyH.cons rfl (fun K j=>?_) AllReadyH.nil
      go_simp
      refine j.out _ _ ⟨d8,d9⟩ (fun d=>?_);clear j K;refine wpAnyH_ready (rs:=[10]) (by kernel_rfl) (by simp) ?_;refine AllReadyH.cons rfl (fun K j=>?_) AllReadyH.nil;refine zc rfl (.tmp 35) (.tmp 37) rfl rfl (by simp[Act.eval]) (by simp[Act.eval]) a0 (j.out _ _ ⟨d5,d7⟩ (fun d=>?_));simp only[Act.put];clear j K;refine wpAnyH_take (i:=11) (v:=.pointer (some ⟨p.wb,L,none⟩)) rfl (by kernel_rfl) (by kernel_rfl) (by kernel_rfl) (fun _ _ _ h=>h) (Or.inl ⟨by rfl,fun w9 f=>?_⟩) d ?_
      ·obtain⟨t,u⟩:=f
       go_simp
      simp only[Act.put];refine wpAnyH_ready (rs:=[12]) (by kernel_rfl) (by simp) ?_;refine AllReadyH.cons rfl (fun K j=>?_) AllReadyH.nil
      go_simp
      refine j.out _ _ ⟨s5,s7⟩ (fun d=>?_);clear j K;refine wpAnyH_done (by kernel_rfl) ?_ _;go_wp2_with fail;go_roundg (D - (i+1))
      case measure=>omega
      case rel=>exact⟨i+1,by simp,by omega,Nat.le_refl _,HF⟩
   ·have f9:¬(i:Int)<(D:Int):=by omega
    have HF:Hid (∃B C A m,R1 w wr h S p n D B C A m):=by
     have:i=D:=by omega
     subst this;exact J.out
    clear J;go_wp2_with fail;go_meet;exact HF
 case rest =>
  obtain⟨w8,h6⟩:∃w8,w8=wc:=⟨_,rfl⟩
  subst wc;obtain⟨B,C,A,m,y⟩:=hcut.out;obtain⟨c0,c1,c2,c3,c4,c5,c6,T⟩:=sbox y.yb.bs;rw[M.out,o.out]at T;have HY:Hid (R1 w w8 h S p n D B C A m):=y
  have c9:S.st<n:=by have:=q.out.1.st;have:=q.out.2.2;omega
  clear y hcut H7 HC Y X;go_wp2_with fail;refine(a7.out _ _ c9).mono ?_;rintro e V1 ⟨rfl,s⟩;clear c0 c1 c2 c3 c4 c5 c6 T;have E:Hid (R1 w V1 h S p n D B C A m):=HY.out.below s;clear HY s;obtain⟨-,-,c2,-,-,-,-,-⟩:=sbox E.out.yb.bs
  have m3:V1.cell? ⟨p.b3,0,none⟩=some (.pointer (some ⟨p.mb,0,none⟩)):=by rw[qe E.out.yb.bm];rfl
  have b4:Hid (MK n (List.replicate n false) []):=⟨by simp,List.nodup_nil,fun x I=>by cases I⟩
  go_wp2_with fail;refine(j7 V1 w.heap.size p.mb p.fb C n S.st B _ [] E.out.yb.mrk b4.out c9 hn E.out.yb.bel.size).mono ?_;rintro e V2 ⟨rfl,g2,g3,g0,g1⟩;clear m3 c2
  have d6:∀x,isF (List.replicate n false) x=true->False:=by
   intro x I;unfold isF at I
   cases hq:(List.replicate n false)[x]? with
   | none=>rw[hq]at I;cases I
   | some b =>
    rw[hq]at I;have:=List.mem_of_getElem? hq;rw[List.mem_replicate]at this;rw[this.2]at I
    cases I
  have HI:Hid (IR w h S p n A m V2 g2 g3 (mkd (List.replicate n false) [] S.st).1 (mkd (List.replicate n false) [] S.st).2):=by
   obtain⟨a1,a2,a3⟩:=y9 b4.out c9;refine⟨E.out.yb.mark g0 g1,a1.ok,?_,fun z hz=>?_,a2⟩
   ·rw[a1.pr];intro i r x y h0 hr I hp hy;unfold prc at hp;simp only[Bool.and_eq_true]at hp;exact(d6 x hp.1).elim
   ·rcases a3 z hz with e | e
    ·exact(d6 z e).elim
    ·subst e;exact Rch.start
  have HW:Hid (m.length=n/\Rls S S.rs.length m/\∀(x:Nat) (l:List Nat),m[x]?=some l->l.length<=100000):=by
   have y1:=E.out;rw[<-o.out]at y1;exact⟨y1.wl,y1.rls,fun x l hl=>by have:=y1.rows x l hl;rw[o.out]at this;omega⟩
  have m3:V2.cell? ⟨p.b3,0,none⟩=some (.pointer (some ⟨p.mb,0,none⟩)):=by rw[qe HI.out.1.bm];rfl
  clear E g0 g1 d6 b4;generalize (mkd (List.replicate n false) [] S.st).1=fd at HI;generalize (mkd (List.replicate n false) [] S.st).2=fr at HI;go_wp2_with fail;refine(qb5 70 #[.pointer (some ⟨p.b5,0,none⟩),.pointer (some ⟨p.b1,0,none⟩),.pointer (some ⟨p.b3,0,none⟩)] ql4 w.heap.size p.mb n hn (IR w h S p n A m) qq8 (qq9 q.out.1 q.out.2.1 q.out.2.2 HW.out.1 HW.out.2.1 HW.out.2.2) V2 g2 g3 fd fr HI.out).mono ?_;rintro e V5 ⟨rfl,i5,i6,N,y5,a8,f5,f6,f8⟩
  have h9:V5.cell? ⟨p.b3,0,none⟩=some (.pointer (some ⟨p.mb,0,none⟩)):=by rw[qe y5.bm];rfl
  have h8:V5.cell? ⟨p.mb,0,none⟩=some (.slice (some ⟨p.fb,0,none⟩) n n):=by rw[qe y5.mrk.box,a8.len];rfl
  have HF:Hid (N.length=n/\V5.ownsRow w.heap.size 4 1 (.slice (some ⟨p.fb,0,none⟩) n n) n (booC N)/\ko (Rch S) N/\Below w.heap.size w V5):=by
   have h1:=y5.mrk.fnd;rw[a8.len]at h1
   have hC:Clo S (isF N) N:=fun i r x y h0 hr I hp hy=>f5 i r x y h0 hr I (by rw[qg7];exact hp) hy
   exact⟨a8.len,h1,qey hC f6 f8,y5.bel⟩
  clear y5 a8 f5 f6 f8 m3;go_wp2_with fail;go_ret;exact⟨p.fb,N,rfl,HF.out⟩
structure WH (S:Sp):Prop where
 nm:S.nm.length=S.tk+1+S.nt
 tk:S.tk<=100
 nt:S.nt<=200
 nr:S.rs.length<=300
 st:S.tk<S.st/\S.st<S.tk+1+S.nt
 rl:∀(i:Nat) (r:SR),S.rs[i]?=some r->∃x:Nat,r.l=(x:Int)/\S.tk<x/\x<S.tk+1+S.nt
 rr:∀r∈S.rs,r.r.length<=100/\∀y∈r.r,y<S.tk+1+S.nt
theorem WH.szs{S:Sp}(h:WH S):Szs S (S.tk+1+S.nt):=⟨h.nm,rfl,h.tk,h.nt⟩
def RcH (S:Sp) (x:Nat):Prop:=∀P:Nat->Prop,P S.st->(∀(i:Nat) (r:SR) (x y:Nat),S.rs[i]?=some r->r.l=(x:Int)->P x->y∈r.r->P y)->P x
theorem RcH.start{S:Sp}:RcH S S.st:=fun _ a _=>a
theorem RcH.rule{S:Sp}(i:Nat)(r:SR)(x y:Nat)(d:S.rs[i]?=some r)(c:r.l=(x:Int))(h:RcH S x)(f:y∈r.r):RcH S y:=fun P b a=>a i r x y d c (h P b a) f
def qgm (S:Sp) (fd:List Bool):Prop:=∀x,isF fd x=true->RcH S x
def ClH (S:Sp) (P:Nat->Bool) (fd:List Bool):Prop:=∀(i:Nat) (r:SR) (x y:Nat),S.rs[i]?=some r->r.l=(x:Int)->P x=true->y∈r.r->isF fd y=true
def RlH (S:Sp) (i:Nat) (wt:List (List Nat)):Prop:=∀(x:Nat) (l:List Nat),wt[x]?=some l->∀j,j∈l↔(j<i/\∃r,S.rs[j]?=some r/\r.l=(x:Int))
theorem qj5{S:Sp}{fd:List Bool}(d:ClH S (isF fd) fd)(hd:qgm S fd)(f:isF fd S.st=true):ko (RcH S) fd:=by
 have a:∀x,RcH S x->isF fd x=true:=by
  intro x g;exact g (fun x=>isF fd x=true) f d
 intro x b c
 constructor
 ·rintro rfl;exact hd x (by unfold isF;rw[c];rfl)
 ·intro h;have:=a x h;unfold isF at this;rw[c]at this;exact this
def LH (w W:World) (h:SHd) (S:Sp) (p:YP) (vs:List (Option Addr × Nat)) (wt:List (List Nat)) (n:Nat) (fd:List Bool) (fr:List Nat) (l:List Nat) (k:Nat):Prop :=
 ∃va vc fd' fr',YB w W h S p va vc vs fd' fr' wt/\Adds n fd fr fd' fr'/\qgm S fd'/\∀(j i:Nat) (r:SR) (y:Nat),j<k->l[j]?=some i->S.rs[i]?=some r->y∈r.r->isF fd' y=true
def LH2 (w W:World) (h:SHd) (S:Sp) (p:YP) (vs:List (Option Addr × Nat)) (wt:List (List Nat)) (n:Nat) (fd:List Bool) (fr:List Nat) (l:List Nat) (k:Nat) (r:SR) (k2:Nat):Prop :=
 ∃va vc fd' fr',YB w W h S p va vc vs fd' fr' wt/\Adds n fd fr fd' fr'/\qgm S fd'/\(∀(j i:Nat) (r:SR) (y:Nat),j<k->l[j]?=some i->S.rs[i]?=some r->y∈r.r->isF fd' y=true)/\∀(j y:Nat),j<k2->r.r[j]?=some y->isF fd' y=true
theorem LH.open{w W:World}{h:SHd}{S:Sp}{p:YP}{d:List (Option Addr × Nat)}{f:List (List Nat)}{n:Nat}{fd:List Bool}{c:List Nat}{l:List Nat}{k:Nat}(y:LH w W h S p d f n fd c l k)(r:SR):LH2 w W h S p d f n fd c l k r 0:=by
 obtain⟨s,t,a,b,g,i,m,o⟩:=y;exact⟨s,t,a,b,g,i,m,o,fun j y q=>absurd q (Nat.not_lt_zero _)⟩
theorem LH2.shut{w W:World}{h:SHd}{S:Sp}{p:YP}{q:List (Option Addr × Nat)}{s:List (List Nat)}{n:Nat}{fd:List Bool}{f:List Nat}{l:List Nat}{k i:Nat}{r:SR}(y:LH2 w W h S p q s n fd f l k r r.r.length)(A:l[k]?=some i)(B:S.rs[i]?=some r):LH w W h S p q s n fd f l (k+1):=by
 obtain⟨E,F,c,d,t,u,v,x,z⟩:=y;refine⟨E,F,c,d,t,u,v,fun j C D y G a b o=>?_⟩
 rcases Nat.lt_or_ge j k with h | h
 ·exact x j C D y h a b o
 ·have:j=k:=by omega
  subst this;rw[A]at a
  cases a
  rw[B]at b
  cases b
  obtain⟨m,g⟩:=List.getElem?_of_mem o;exact z m y (List.getElem?_eq_some_iff.1 g).1 g
theorem LH2.below{w W c:World}{h:SHd}{S:Sp}{p:YP}{g:List (Option Addr × Nat)}{i:List (List Nat)}{n:Nat}{fd:List Bool}{d:List Nat}{l:List Nat}{k f:Nat}{r:SR}(y:LH2 w W h S p g i n fd d l k r f)(o:Below W.heap.size W c):LH2 w c h S p g i n fd d l k r f:=by
 obtain⟨q,s,a,b,j,m⟩:=y;exact⟨q,s,a,b,j.below o,m⟩
theorem LH2.mark{w W:World}{h:SHd}{S:Sp}{p:YP}{B:List (Option Addr × Nat)}{C:List (List Nat)}{n:Nat}{fd:List Bool}{A:List Nat}{l:List Nat}{k b z:Nat}{r:SR}(y:LH2 w W h S p B C n fd A l k r b)(L:r.r[b]?=some z)(a:z<n)(J:n<=1000)(t:RcH S z):
  Calls Tryz.prog 68 #[.pointer (some ⟨p.mb,0,none⟩),.int .i64 (z:Int)] W fun e D=>e=.returned (.tuple #[])/\LH2 w D h S p B C n fd A l k r (b+1):=by
 obtain⟨Q,R,d,f,g,m,G,H,I⟩:=y;refine(j7 W w.heap.size p.mb p.fb R n z Q d f g.mrk m.ok a J g.bel.size).mono ?_;rintro e T ⟨rfl,v,x,o,q⟩;obtain⟨c,E,F⟩:=y9 m.ok a;refine⟨rfl,v,x,_,_,g.mark o q,m.trans c,fun u K=>?_,fun j i r y M N O P=>c.up y (H j i r y M N O P),fun j y U s=>?_⟩
 ·rcases F u K with e | e
  ·exact G u e
  ·subst e;exact t
 ·rcases Nat.lt_or_ge j b with h | h
  ·exact c.up y (I j y h s)
  ·have:j=b:=by omega
   subst this;rw[L]at s
   cases s
   exact E
theorem qlc(w W:World)(h:SHd)(S:Sp)(p:YP)(o:List (Option Addr × Nat))(b:List (List Nat))(n x:Nat)(fd:List Bool)(s:List Nat)(l:List Nat)(y:LH w W h S p o b n fd s l 0)(g:WH S)(Q:IsSp w h S)(B:n=S.tk+1+S.nt)(L:b[x]?=some l)(hw:∀i∈l,∃r,S.rs[i]?=some r/\r.l=(x:Int))(hd:RcH S x)(a7:l.length<=100000):
  Calls Tryz.prog 70 #[.int .i64 (x:Int),.pointer (some ⟨p.b5,0,none⟩),.pointer (some ⟨p.b1,0,none⟩),.pointer (some ⟨p.b3,0,none⟩)] W fun e W'=>e=.returned (.tuple #[])/\LH w W' h S p o b n fd s l l.length:=by
 have HY:Hid (LH w W h S p o b n fd s l 0):=y
 have f:Hid (WH S/\IsSp w h S/\n=S.tk+1+S.nt/\RcH S x/\b[x]?=some l):=⟨g,Q,B,hd,L⟩
 have HW:Hid (∀i∈l,∃r,S.rs[i]?=some r/\r.l=(x:Int)):=hw;obtain⟨d2,d5,b9,c5,Z,-⟩:=y;obtain⟨q,hq,c1,-⟩:=Z.grd.at L
 have c0:W.cell? ⟨p.b5,0,none⟩=some (.slice (some ⟨p.wb,0,none⟩) b.length b.length):=by rw[qe Z.bw];rfl
 have hx:x<b.length:=(List.getElem?_eq_some_iff.1 L).1;have HQ:Hid (o[x]?=some q):=hq;obtain⟨qa,qc⟩:=q;simp only at c1;have M:=z8 (Z.grd.row x _ l hq L);simp only at M;have a9:S.rs.length<=300:=g.nr
 have HN:Hid (n<=1000):=by
  have h1:=g.tk;have h2:=g.nt;show n<=1000;omega
 have a0:Hid (∀(V:World) (z:Nat),z<n->Calls Tryz.prog 67 #[.agg (sC h S),.int .i64 (z:Int)] V fun e w'=>e=.returned (.bool true)/\Below V.heap.size V w'):=fun V z u=>qaa h S V n z (by rw[B];exact g.szs) u
 clear Z hq L hd Q g hw B;generalize b.length=wn at c0 hx
 obtain⟨m,HM⟩:∃m,Hid (l.length=m):=⟨_,rfl⟩
 rw[HM.out]at c1 a7 M ⊢;go_enter Tryz.func70,Tryz.ntmps70;go_wp2_with fail
 go_loopg [14] m (fun kx s14 wr=>∃k:Nat,s14=.int .i64 k/\k<=m/\m - k<=kx/\Hid (LH w wr h S p o b n fd s l k))
 case atStart=>exact⟨0,rfl,Nat.zero_le _,by omega,HY⟩
 case round =>
  clear c0 c1 HY;obtain⟨k,rfl,hk,hg,J⟩:=hrel
  by_cases a8:k<m
  ·obtain⟨va,vc,a4,a5,y,-⟩:=J.out
   obtain⟨i,Y⟩:∃i,l[k]?=some i:=⟨l[k]'(by rw[HM.out];exact a8),List.getElem?_eq_getElem _⟩
   obtain⟨r,C,P⟩:=HW.out i (List.mem_of_getElem? Y);have a6:i<S.rs.length:=(List.getElem?_eq_some_iff.1 C).1;have b0:r.r.length<=100:=(f.out.1.rr r (List.mem_of_getElem? C)).1;have a:=y.grd.row x _ l HQ.out f.out.2.2.2.2;simp only at a;rw[HM.out]at a
   obtain⟨qg,rfl⟩:∃qg,qa=some ⟨qg,0,none⟩:=by
    obtain⟨ao,c,e,-,-,X⟩:=zh a
    cases e
    rcases X with ⟨-,X,-⟩ | X
    ·omega
    ·exact X
   have d1:wr.cell? ⟨qg,k,none⟩=some (.int .i64 (i:Int)):=by
    rw[a.cellAt k (by omega)];unfold natC;rw[List.getElem?_map,Y];rfl
   obtain⟨rb,ro,xa,xc,D,-,G,-,-,E⟩:=f.out.2.1.rl.at C;have g1:=qj y.bel G;obtain⟨-,-,-,-,-,-,-,U⟩:=sbox y.bs;rw[D]at U;have O:=j6 f.out.2.1.rl;have b6:=ze E;have a2:Hid (Row w 1 xa r.r.length xc (natC r.r)):=E
   have HR:Hid (l[k]?=some i/\S.rs[i]?=some r/\∀z∈r.r,z<n/\RcH S z):=⟨Y,C,fun z u=>⟨by rw[f.out.2.2.1];exact(f.out.1.rr r (List.mem_of_getElem? C)).2 z u,RcH.rule i r x z C P f.out.2.2.2.1 u⟩⟩
   have F:Hid (LH2 w wr h S p o b n fd s l k r 0):=J.out.open r;have a3:Hid (YB w wr h S p va vc o a4 a5 b):=y;have b8:Hid (h.ra=some ⟨rb,ro,none⟩):=D
   have K:(i:Int)<(S.rs.length:Int):=by omega
   have b7:(k:Int)<(m:Int):=by omega
   clear y J a Y C P D E G;generalize S.rs.length=rn at a9 a6 U O K;generalize h.rc=rc at U O
   obtain⟨t,v⟩:∃t,Hid (r.r.length=t):=⟨_,rfl⟩
   rw[v.out]at b0 b6 g1
   obtain⟨wo,d0⟩:∃wo,wo=wr:=⟨_,rfl⟩
   subst wr;go_wp2_with fail;clear d1 g1 U
   go_loopg [25] t (fun kx s25 wr=>∃d:Nat,s25=.int .i64 d/\d<=t/\t - d<=kx/\Hid (LH2 w wr h S p o b n fd s l k r d))
   case atStart=>exact⟨0,rfl,Nat.zero_le _,by omega,F⟩
   case round =>
    clear F a3;obtain⟨d,rfl,c9,c8,J⟩:=hrel
    by_cases N:d<t
    ·have A:(d:Int)<(t:Int):=by omega
     obtain⟨z,u⟩:∃z,r.r[d]?=some z:=⟨r.r[d]'(by rw[v.out];exact N),List.getElem?_eq_getElem _⟩
     obtain⟨d3,d6,c3,c6,y,-⟩:=J.out;obtain⟨b2,o2,b4,q1⟩:=vj (a2.out.below y.bel) u;subst b4;obtain⟨R,T⟩:=HR.out.2.2 z (List.mem_of_getElem? u);obtain⟨s0,s1,s2,s3,s4,s5,s6,s7⟩:=sbox y.bs
     have HZ:Hid (r.r[d]?=some z/\z<n/\RcH S z):=⟨u,R,T⟩
     have HC:Hid (Calls Tryz.prog 67 #[.agg (sC h S),.int .i64 (z:Int)] wr fun e w'=>e=.returned (.bool true)/\Below wr.heap.size wr w'):=a0.out wr z R;unfold sC at HC;clear y u T;go_wp2_with fail;refine HC.out.mono ?_;rintro e V ⟨rfl,H⟩;have JV:Hid (LH2 w V h S p o b n fd s l k r d):=J.out.below H;obtain⟨d4,d7,c4,c7,y3,-⟩:=JV.out
     have t3:V.cell? ⟨p.b3,0,none⟩=some (.pointer (some ⟨p.mb,0,none⟩)):=by rw[qe y3.bm];rfl
     clear y3 H HC J s0 s1 s2 s3 s4 s5 s6 s7 q1;go_wp2_with fail;refine(JV.out.mark HZ.out.1 HZ.out.2.1 HN.out HZ.out.2.2).mono ?_;rintro e V2 ⟨rfl,I⟩;have a1:Hid (LH2 w V2 h S p o b n fd s l k r (d+1)):=I;clear I JV t3;go_wp2_with fail;go_roundg (t - (d+1))
     case measure=>omega
     case rel=>exact⟨d+1,by simp,by omega,Nat.le_refl _,a1⟩
    ·have A:¬(d:Int)<(t:Int):=by omega
     have HF:Hid (LH w wr h S p o b n fd s l (k+1)):=by
      have:d=t:=by omega
      subst this;have j:=J.out;rw[<-v.out]at j;exact j.shut HR.out.1 HR.out.2.1
     clear J;go_wp2_with fail;go_roundg (m - (k+1))
     case measure=>omega
     case rel=>exact⟨k+1,by simp,by omega,Nat.le_refl _,HF⟩
  ·have HF:Hid (LH w wr h S p o b n fd s l m):=by
    have:k=m:=by omega
    subst this;exact J.out
   clear J;go_wp2_with fail;go_end0;exact⟨rfl,HF.out⟩
structure H1 (w W:World) (h:SHd) (S:Sp) (p:YP) (n i:Nat) (va:Option Addr) (vc:Nat) (vs:List (Option Addr × Nat)) (wt:List (List Nat)):Prop where
 yb:YB w W h S p va vc vs (List.replicate n false) [] wt
 wl:wt.length=n
 rls:RlH S i wt
 rows:∀(x:Nat) (l:List Nat),wt[x]?=some l->l.length<=i
theorem H1.below{w W a:World}{h:SHd}{S:Sp}{p:YP}{n i:Nat}{b:Option Addr}{c:Nat}{d:List (Option Addr × Nat)}{f:List (List Nat)}(y:H1 w W h S p n i b c d f)(g:Below W.heap.size W a):H1 w a h S p n i b c d f :=
 ⟨y.yb.below g,y.wl,y.rls,y.rows⟩
theorem qpt(S:Sp)(n:Nat):RlH S 0 (List.replicate n []):=by
 intro x l b j;have a:=List.mem_of_getElem? b;rw[List.mem_replicate]at a;rw[a.2]
 constructor
 ·intro h;cases h
 ·rintro⟨h,-⟩;omega
theorem qpu{S:Sp}{i x:Nat}{d:List (List Nat)}{l:List Nat}{r:SR}(h:RlH S i d)(n:S.rs[i]?=some r)(o:r.l=(x:Int))(k:d[x]?=some l):RlH S (i+1) (d.set x (l++[i])):=by
 intro y m c j;rw[List.getElem?_set]at c;have g:x<d.length:=(List.getElem?_eq_some_iff.1 k).1
 by_cases p:x=y
 ·subst p;rw[if_pos rfl,if_pos g]at c
  cases c
  rw[List.mem_append,List.mem_singleton,h x l k j]
  constructor
  ·rintro(⟨f,a⟩ | rfl)
   ·exact⟨by omega,a⟩
   ·exact⟨by omega,r,n,o⟩
  ·rintro⟨f,a⟩
   rcases Nat.lt_or_ge j i with b | b
   ·exact .inl ⟨b,a⟩
   ·exact .inr (by omega)
 ·rw[if_neg p]at c;rw[h y m c j]
  constructor
  ·rintro⟨f,a⟩;exact⟨by omega,a⟩
  ·rintro⟨f,q,a,b⟩
   rcases Nat.lt_or_ge j i with h5 | h5
   ·exact⟨h5,q,a,b⟩
   ·have:j=i:=by omega
    subst this;rw[n]at a
    cases a
    rw[o]at b;omega
theorem H1.push{w W:World}{h:SHd}{S:Sp}{p:YP}{n i x:Nat}{G:Option Addr}{H:Nat}{N:List (Option Addr × Nat)}{C:List (List Nat)}{r:SR}(y:H1 w W h S p n i G H N C)(K:S.rs[i]?=some r)(L:r.l=(x:Int))(v:x<n)(T:i<10000):
  ∃A o t g c b,W.cell? ⟨p.wb,x,none⟩=some (.slice A o t)/\o<=t/\t<=9223372036854775807/\(Builtin.append_ #[26,26] 26 #[.slice A o t,.slice (some ⟨W.heap.size,0,none⟩) 1 1]).run Tryz.prog (W.alloc (.cells #[.int .i64 (i:Int)] 3))=.ok (.slice (some ⟨g,0,none⟩) (o+1) c) b /\
   b.cell? ⟨p.wb,x,none⟩=some (.slice A o t)/\b.frozen? ⟨p.wb,x,none⟩=false/\b.cell? ⟨p.b5,0,none⟩=some (.slice (some ⟨p.wb,0,none⟩) n n)/\Kept (fun k=>Loc W k 26\/Loc W k 3) W b /\
   ∃B D,H1 w (b.setCell ⟨p.wb,x,none⟩ (.slice (some ⟨g,0,none⟩) (o+1) c)) h S p n (i+1) G H B D:=by
 obtain⟨l,f⟩:∃l,C[x]?=some l:=⟨C[x]'(by rw[y.wl];exact v),List.getElem?_eq_getElem _⟩
 obtain⟨q,u,c1,-⟩:=y.yb.grd.at f;have F:=y.rows x l f;obtain⟨g,c,b,d,-,-,M,-,-,-⟩:=y.yb.grd.add (i:=i) y.yb.bel.size f u (by omega);obtain⟨Q,c2,P,a,I,J,E,O,R,U⟩:=y.yb.push (i:=i) f u (by omega);rw[d]at a
 injection a with e1 e2
 cases e1
 subst e2;have s:=z8 (y.yb.grd.row x q l u f);rw[y.wl]at E;refine⟨q.1,l.length,q.2,g,c,b,c1,s.1,s.2,d,I,J,E,M.weaken (fun k e=>.inr (y.yb.grd.lt ⟨x,q,u,e⟩).2.2),_,_,O,by rw[List.length_set];exact y.wl,qpu y.rls K L f,fun z m j=>?_⟩
 rw[List.getElem?_set]at j
 split at j
 ·split at j
  ·cases j
   rw[List.length_append];simp;omega
  ·cases j
 ·have:=y.rows z m j;omega
def IH (w:World) (h:SHd) (S:Sp) (p:YP) (n:Nat) (vs:List (Option Addr × Nat)) (wt:List (List Nat)) (W:World) (va:Option Addr) (vc:Nat) (fd:List Bool) (fr:List Nat):Prop :=
 YB w W h S p va vc vs fd fr wt/\MK n fd fr/\ClH S (prc fd fr) fd/\qgm S fd/\isF fd S.st=true
theorem qrb{w:World}{h:SHd}{S:Sp}{p:YP}{n:Nat}{g:List (Option Addr × Nat)}{i:List (List Nat)}:∀W b c fd a,IH w h S p n g i W b c fd a->MK n fd a/\∃d,Mrk W w.heap.size p.mb d b c fd a:=by
 rintro W b c fd a ⟨y,f,-⟩;exact⟨f,p.fb,y.mrk⟩
theorem qrd{w:World}{h:SHd}{S:Sp}{p:YP}{n:Nat}{B:List (Option Addr × Nat)}{c:List (List Nat)}(G:WH S)(F:IsSp w h S)(D:n=S.tk+1+S.nt)(H:c.length=n)(M:RlH S S.rs.length c)(f:∀(x:Nat) (l:List Nat),c[x]?=some l->l.length<=100000):
  ∀W o q fd d x,IH w h S p n B c W o q fd (d++[x])->Calls Tryz.prog 70 (#[.int .i64 (x:Int)]++#[.pointer (some ⟨p.b5,0,none⟩),.pointer (some ⟨p.b1,0,none⟩),.pointer (some ⟨p.b3,0,none⟩)]) (popW W p.mb o d.length q) fun e J=>e=.returned (.tuple #[])/\∃g k a b,IH w h S p n B c J g k a b/\lft n a b<lft n fd (d++[x]):=by
 rintro W o q fd d x ⟨y,Y,U,K,V⟩;obtain⟨Z,O,I,P⟩:=Y.pop
 obtain⟨l,t⟩:∃l,c[x]?=some l:=⟨c[x]'(by rw[H];exact P),List.getElem?_eq_getElem _⟩
 have y1:LH w (popW W p.mb o d.length q) h S p B c n fd d l 0:=⟨o,q,fd,d,y.pop,Adds.refl Z,K,fun j i r y s=>absurd s (Nat.not_lt_zero _)⟩
 refine(qlc w _ h S p B c n x fd d l y1 G F D t (fun i X=>?_) (K x I) (f x l t)).mono ?_
 ·obtain⟨-,T⟩:=(M x l t i).1 X;exact T
 rintro e J ⟨rfl,g,k,a,b,y',A,Q,R⟩;refine⟨rfl,g,k,a,b,⟨y',A.ok,?_,Q,A.up _ V⟩,?_⟩
 ·rw[A.pr];intro i r z u v N E L;rw[qg5 I O z]at E
  by_cases m:z=x
  ·subst m;have C:i∈l:=(M z l t i).2 ⟨(List.getElem?_eq_some_iff.1 v).1,r,v,N⟩;obtain⟨j,s⟩:=List.getElem?_of_mem C;exact R j i r u (List.getElem?_eq_some_iff.1 s).1 s v L
  ·rw[if_neg m]at E;exact A.up u (U i r z u v N E L)
 ·rw[qff A];exact qg6 P I O
theorem qhk(w:World)(h:SHd)(S:Sp)(n:Nat)(b6:n=S.tk+1+S.nt)(O:WH S)(f8:IsSp w h S)(rb ro:Nat)(N:h.ra=some ⟨rb,ro,none⟩):
  Calls Tryz.prog 43 #[sv h S] w fun e w'=>BRes w w' n (RcH S) e:=by
 have hz:Szs S n:=by rw[b6];exact O.szs
 have hn:n<=1000:=by have:=O.tk;have:=O.nt;omega
 have g5:S.rs.length<=300:=O.nr
 have HC:Hid (∀V:World,Calls Tryz.prog 65 #[.agg (sC h S)] V fun e w'=>e=.returned (.int .i64 (n:Int))/\Below V.heap.size V w'):=fun V=>qa0 h S V n hz
 have a5:Hid (∀(V:World) (z:Nat),z<n->Calls Tryz.prog 67 #[.agg (sC h S),.int .i64 (z:Int)] V fun e w'=>e=.returned (.bool true)/\Below V.heap.size V w'):=fun V z E=>qaa h S V n z hz E
 have R:Hid (∀(V:World) (z:Nat),z<n->S.tk<z->Calls Tryz.prog 66 #[.agg (sC h S),.int .i64 (z:Int)] V fun e w'=>e=.returned (.bool true)/\Below V.heap.size V w'):=fun V z E ht=>qed h S V n z hz E ht
 have o:Hid (WH S/\IsSp w h S/\n=S.tk+1+S.nt):=⟨O,f8,b6⟩
 have b2:Below w.heap.size w (w.alloc (.cells (sC h S) 31)):=qb _ _;have Z:(w.alloc (.cells (sC h S) 31)).heap[w.heap.size]?=some (.cells (sC h S) 31 (0,0)):=heap_alloc_new _ _;have I:Hid (h.ra=some ⟨rb,ro,none⟩):=N;clear O f8 b6 hz;unfold sv sC;unfold sC at HC a5 R;rw[N]at HC a5 R  ⊢;clear N
 obtain⟨u,m⟩:∃u,Hid (S.rs.length=u):=⟨_,rfl⟩
 rw[m.out]at HC a5 R  g5 ⊢;go_enter Tryz.func43,Tryz.ntmps43
 go_upto_region 1 with fail
 have e0:w.alloc (.cells #[.int .i64 (S.tk:Int),.int .i64 (S.nt:Int),.int .i64 (S.st:Int),.int .i64 S.ex,.slice h.na S.nm.length h.nc,.slice h.la S.lv.length h.lc,.slice h.aa S.az.length h.ac,.slice (some ⟨rb,ro,none⟩) u h.rc] 31)=w.alloc (.cells (sC h S) 31):=by unfold sC;rw[I.out,m.out]
 rw[e0];generalize w.alloc (.cells (sC h S) 31)=W0 at b2 Z ⊢
 obtain⟨b1,d6⟩:∃b1,Hid (b1=w.heap.size):=⟨_,rfl⟩
 rw[<-d6.out]at Z ⊢;obtain⟨c0,c1,c2,c3,c4,c5,c6,X⟩:=sbox Z;rw[I.out,m.out]at X
 have a9:Hid (Below w.heap.size w W0/\W0.heap[b1]?=some (.cells (sC h S) 31 (0,0))):=⟨b2,Z⟩
 clear e0 b2 Z;go_wp2_with fail;refine(HC.out _).mono ?_;rintro e W1 ⟨rfl,M⟩
 have a4:Hid (Below w.heap.size w W1/\W1.heap[b1]?=some (.cells (sC h S) 31 (0,0))):=⟨qd a9.out.1 M,qf M a9.out.2⟩
 clear M a9;go_wp2_with fail;refine(qat W1 n hn).mono ?_;rintro e W2 ⟨P,fb,rfl,hM,b4⟩;clear c0 c1 c2 c3 c4 c5 c6 X;have h3:Below W2.heap.size W2 (W2.alloc (.cells #[.pointer (some ⟨P,0,none⟩)] 94)):=qb _ _
 have HA:Hid (Below w.heap.size w (W2.alloc (.cells #[.pointer (some ⟨P,0,none⟩)] 94))/\(W2.alloc (.cells #[.pointer (some ⟨P,0,none⟩)] 94)).heap[b1]?=some (.cells (sC h S) 31 (0,0))/\(W2.alloc (.cells #[.pointer (some ⟨P,0,none⟩)] 94)).heap[W2.heap.size]?=some (.cells #[.pointer (some ⟨P,0,none⟩)] 94 (0,0))/\Mrk (W2.alloc (.cells #[.pointer (some ⟨P,0,none⟩)] 94)) w.heap.size P fb none 0 (List.replicate n false) []) :=
  ⟨qd (qd a4.out.1 b4) h3,qf h3 (qf b4 a4.out.2),heap_alloc_new _ _,(hM.mono a4.out.1.size).keep (fun k hk=>h3.block k (hM.loc hk).2.1)⟩
 clear hM b4 a4 h3
 go_upto_region 2 with fail
 obtain⟨b3,d8⟩:∃b3,Hid (b3=W2.heap.size):=⟨_,rfl⟩
 rw[<-d8.out]at HA ⊢;generalize W2.alloc (.cells #[.pointer (some ⟨P,0,none⟩)] 94)=U at HA ⊢;clear d8;have g4:=j6 o.out.2.1.rl;rw[m.out]at g4;obtain⟨W6,g3,f4,f0⟩:=qcj U w.heap.size n hn HA.out.1.size
 have d3:U.cell? ⟨b3,0,none⟩=some (.pointer (some ⟨P,0,none⟩)):=by rw[qe HA.out.2.2.1];rfl
 have dm:U.cell? ⟨P,0,none⟩=some (.slice (some ⟨fb,0,none⟩) n n):=by rw[qe HA.out.2.2.2.box,List.length_replicate];rfl
 have h7:Below W6.heap.size W6 (W6.alloc (.cells #[.slice (some ⟨U.heap.size,0,none⟩) n n] 38)):=qb _ _
 have H7:Hid (H1 w (W6.alloc (.cells #[.slice (some ⟨U.heap.size,0,none⟩) n n] 38)) h S ⟨b1,b3,W6.heap.size,P,fb,U.heap.size⟩ n 0 none 0 (List.replicate n (none,0)) (List.replicate n [])):=by
  obtain⟨q1,q2,q3,q4⟩:=HA.out;have hb:Below U.heap.size U (W6.alloc (.cells #[.slice (some ⟨U.heap.size,0,none⟩) n n] 38)):=qd f0 h7;refine⟨⟨qd q1 hb,qf hb q2,qf hb q3,?_,q4.keep (fun k hk=>hb.block k (q4.loc hk).2.1),f4.below h7,fun k hk=>(qgl hk).elim⟩,by simp,qpt S n,fun x l hl=>?_⟩
  ·simp only[List.length_replicate];exact heap_alloc_new _ _
  ·have:=List.mem_of_getElem? hl;rw[List.mem_replicate]at this;rw[this.2];simp
 clear f4 f0 h7 HA
 go_upto_region 3 with fail
 clear g3 d3 dm;generalize W6.alloc (.cells #[.slice (some ⟨U.heap.size,0,none⟩) n n] 38)=W7 at H7 ⊢;generalize W6.heap.size=b5 at H7 ⊢;generalize U.heap.size=wb at H7 ⊢
 obtain⟨p,HP⟩:∃p:YP,Hid (p=⟨b1,b3,b5,P,fb,wb⟩):=⟨_,rfl⟩
 have p1:b1=p.b1:=by rw[HP.out]
 have p3:b3=p.b3:=by rw[HP.out]
 have p5:b5=p.b5:=by rw[HP.out]
 have pm:P=p.mb:=by rw[HP.out]
 have pf:fb=p.fb:=by rw[HP.out]
 have pw:wb=p.wb:=by rw[HP.out]
 rw[<-HP.out]at H7;clear HP d6;subst p1 p3 p5 pm pf pw;obtain⟨-,-,-,-,-,-,-,X⟩:=sbox H7.out.yb.bs;rw[I.out,m.out]at X
 go_upto_block 0 with fail
 clear X
 go_cut [19] (fun s19 wd=>Hid (∃F G A t,H1 w wd h S p n u F G A t))
 case first =>
  go_wp2_with fail
  go_loopg [19] u (fun kx s19 wr=>∃i:Nat,s19=.int .i64 i/\i<=u/\u - i<=kx/\Hid (∃F G A t,H1 w wr h S p n i F G A t))
  case atStart=>exact⟨0,rfl,Nat.zero_le _,by omega,(⟨_,_,_,_,H7.out⟩:∃F G A t,H1 w W7 h S p n 0 F G A t)⟩
  case round =>
   clear H7;obtain⟨i,rfl,hi,hg,J⟩:=hrel
   by_cases g2:i<u
   ·have f6:(i:Int)<(u:Int):=by omega
    obtain⟨F,G,A,t,y⟩:=J.out
    obtain⟨r,hr⟩:∃r,S.rs[i]?=some r:=⟨S.rs[i]'(by rw[m.out];exact g2),List.getElem?_eq_getElem _⟩
    obtain⟨h5,h6,xa,xc,N,d0,d1,d2,d3,g6⟩:=o.out.2.1.rl.at hr;rw[I.out]at N
    cases N
    have d0:=qj y.yb.bel d0;have d1:=qj y.yb.bel d1;have d2:=qj y.yb.bel d2;have d3:=qj y.yb.bel d3;have HR:Hid (S.rs[i]?=some r):=hr;have hv:Below wr.heap.size wr (wr.alloc (.cells #[.int .i64 r.l,.slice xa r.r.length xc,.int .i64 r.lv,.int .i64 r.a] 47)):=qb _ _
    have T:Hid (H1 w (wr.alloc (.cells #[.int .i64 r.l,.slice xa r.r.length xc,.int .i64 r.lv,.int .i64 r.a] 47)) h S p n i F G A t/\(wr.alloc (.cells #[.int .i64 r.l,.slice xa r.r.length xc,.int .i64 r.lv,.int .i64 r.a] 47)).heap[wr.heap.size]?=some (.cells #[.int .i64 r.l,.slice xa r.r.length xc,.int .i64 r.lv,.int .i64 r.a] 47 (0,0))):=⟨y.below hv,heap_alloc_new _ _⟩
    clear y J hr g6 hv
    go_upto_region 6 with fail
    obtain⟨Q,d9⟩:∃Q,Hid (Q=wr.heap.size):=⟨_,rfl⟩
    rw[<-d9.out]at T ⊢;generalize wr.alloc (.cells #[.int .i64 r.l,.slice xa r.r.length xc,.int .i64 r.lv,.int .i64 r.a] 47)=V at T ⊢;clear d9 d0 d1 d2 d3;obtain⟨c0,c1,c2,c3,c4,c5,c6,X⟩:=sbox T.out.1.yb.bs
    have e0:V.cell? ⟨Q,0,none⟩=some (.int .i64 r.l):=by rw[qe T.out.2];rfl
    rw[I.out,m.out]at X;obtain⟨H,a0,g7,b9⟩:=o.out.1.rl i r HR.out;rw[<-o.out.2.2]at b9;rw[a0]at e0;go_wp2_with fail;refine(R.out _ _ b9 g7).mono ?_;rintro e V4 ⟨rfl,C⟩;have D:=qf C T.out.2;have y4:=(T.out.1.below C).below (qk V4);obtain⟨qa,qm,qc,g,c,W',q2,q3,q4,a8,d1,f1,d5,j,i0,i1,y5⟩:=y4.push HR.out a0 b9 (by omega)
    have q5:V4.cell? ⟨p.b5,0,none⟩=some (.slice (some ⟨p.wb,0,none⟩) n n):=by
     have:=(T.out.1.below C).yb.bw;rw[y4.wl]at this;rw[qe this];rfl
    have q7:V4.cell? ⟨Q,0,none⟩=some (.int .i64 (H:Int)):=by rw[qe D,a0];rfl
    have a7:W'.heap[Q]?=some (.cells #[.int .i64 r.l,.slice xa r.r.length xc,.int .i64 r.lv,.int .i64 r.a] 47 (0,0)):=by
     rw[j.block Q (Array.getElem?_eq_some_iff.1 D).1 (fun e=>?_)]
     ·exact D
     ·rcases e with e | e
      ·exact qr ⟨_,D⟩ e (by decide) rfl
      ·exact qr ⟨_,D⟩ e (by decide) rfl
    have n5:p.b5≠p.wb:=qr ⟨_,(T.out.1.below C).yb.bw⟩ (T.out.1.below C).yb.grd.loc.2.2 (by decide);have n7:Q≠p.wb:=qr ⟨_,D⟩ (T.out.1.below C).yb.grd.loc.2.2 (by decide)
    have d7:W'.cell? ⟨Q,0,none⟩=some (.int .i64 (H:Int)):=by rw[qe a7,a0];rfl
    have q2:V4.cell? ⟨p.wb,H,none⟩=some (.slice qa qm qc):=q2;have Y:(Builtin.append_ #[26,26] 26 #[.slice qa qm qc,.slice (some ⟨V4.heap.size,0,none⟩) 1 1]).run Tryz.prog (V4.alloc (.cells #[.int .i64 (i:Int)] 3)).drew=.ok (.slice (some ⟨g,0,none⟩) (qm+1) c) W':=a8
    have HF:Hid (∃F G A t,H1 w (W'.setCell ⟨p.wb,H,none⟩ (.slice (some ⟨g,0,none⟩) (qm+1) c)) h S p n (i+1) F G A t):=⟨_,_,_,_,y5⟩
    clear y4 y5 C T a8 c0 c1 c2 c3 c4 c5 c6 X e0 D a7 j a0
    go_upto_region 7 with fail
    have c9:=qo q5 (.cells #[.int .i64 (i:Int)] 3);have h4:=qo q2 (.cells #[.int .i64 (i:Int)] 3);have d4:=qo q7 (.cells #[.int .i64 (i:Int)] 3)
    have g8:(H:Int)<(n:Int):=by omega
    have s5:(W'.setCell ⟨p.wb,H,none⟩ (.slice (some ⟨g,0,none⟩) (qm+1) c)).cell? ⟨p.b5,0,none⟩=some (.slice (some ⟨p.wb,0,none⟩) n n):=qz d5 n5;have s7:(W'.setCell ⟨p.wb,H,none⟩ (.slice (some ⟨g,0,none⟩) (qm+1) c)).cell? ⟨Q,0,none⟩=some (.int .i64 (H:Int)):=qz d7 n7;refine wp_region_held_drew (S:=fun w'=>w'.cell? ⟨p.b5,0,none⟩=some (.slice (some ⟨p.wb,0,none⟩) n n)/\w'.cell? ⟨Q,0,none⟩=some (.int .i64 (H:Int))) (by kernel_rfl) ⟨q5,q7⟩ (fun d=>?_);refine wpAnyH_take (i:=0) (v:=.slice (some ⟨p.wb,0,none⟩) n n) rfl (by kernel_rfl) (by kernel_rfl) (by kernel_rfl) (fun _ _ _ h=>h) (Or.inl ⟨by rfl,fun w9 f=>?_⟩) d ?_
    ·obtain⟨q,s⟩:=f
     go_simp
    simp only[Act.put];refine wpAnyH_take (i:=1) (v:=.pointer (some ⟨Q,0,none⟩)) rfl (by kernel_rfl) (by kernel_rfl) (by kernel_rfl) (fun _ _ _ h=>h) (Or.inl ⟨by rfl,fun w9 f=>?_⟩) d ?_
    ·obtain⟨q,s⟩:=f
     go_simp
    simp only[Act.put];refine wpAnyH_take (i:=2) (v:=.int .i64 (H:Int)) rfl (by kernel_rfl) (by kernel_rfl) (by kernel_rfl) (fun _ _ _ h=>h) (Or.inl ⟨by rfl,fun w9 f=>?_⟩) d ?_
    ·obtain⟨q,s⟩:=f
     go_simp
    simp only[Act.put];refine wpAnyH_take (i:=3) (v:=.slice (some ⟨p.wb,0,none⟩) n n) rfl (by kernel_rfl) (by kernel_rfl) (by kernel_rfl) (fun _ _ _ h=>h) (Or.inl ⟨by rfl,fun w9 f=>?_⟩) d ?_
    ·obtain⟨q,s⟩:=f
     go_simp
    simp only[Act.put];refine wpAnyH_take (i:=4) (v:=.pointer (some ⟨Q,0,none⟩)) rfl (by kernel_rfl) (by kernel_rfl) (by kernel_rfl) (fun _ _ _ h=>h) (Or.inl ⟨by rfl,fun w9 f=>?_⟩) d ?_
    ·obtain⟨q,s⟩:=f
     go_simp
    simp only[Act.put];refine wpAnyH_take (i:=5) (v:=.int .i64 (H:Int)) rfl (by kernel_rfl) (by kernel_rfl) (by kernel_rfl) (fun _ _ _ h=>h) (Or.inl ⟨by rfl,fun w9 f=>?_⟩) d ?_
    ·obtain⟨q,s⟩:=f
     go_simp
    simp only[Act.put];refine wpAnyH_take (i:=6) (v:=.pointer (some ⟨p.wb,H,none⟩)) rfl (by kernel_rfl) (by kernel_rfl) (by kernel_rfl) (fun _ _ _ h=>h) (Or.inl ⟨by rfl,fun w9 f=>?_⟩) d ?_
    ·obtain⟨q,s⟩:=f
     go_simp
    simp only[Act.put];refine wpAnyH_take (i:=8) (v:=.int .i64 (i:Int)) rfl (by kernel_rfl) (by kernel_rfl) (by kernel_rfl) (fun _ _ _ h=>h) (Or.inl ⟨by rfl,fun w9 f=>?_⟩) d ?_
    ·obtain⟨q,s⟩:=f
     go_simp
    simp only[Act.put];refine wpAnyH_ready (rs:=[7,9]) (by kernel_rfl) (by simp) ?_;refine AllReadyH.cons rfl (fun K j=>?_) (AllReadyH.cons rfl (fun K j=>?_) AllReadyH.nil)
    ·go_simp
     refine j.out _ _ ⟨q5,q7⟩ (fun d=>?_);clear j K;refine wpAnyH_ready (rs:=[9]) (by kernel_rfl) (by simp) ?_;refine AllReadyH.cons rfl (fun K j=>?_) AllReadyH.nil
     go_simp
     refine j.out _ _ ⟨c9,d4⟩ (fun d=>?_);clear j K;refine wpAnyH_ready (rs:=[10]) (by kernel_rfl) (by simp) ?_;refine AllReadyH.cons rfl (fun K j=>?_) AllReadyH.nil;refine zc rfl (.tmp 35) (.tmp 37) rfl rfl (by simp[Act.eval]) (by simp[Act.eval]) Y (j.out _ _ ⟨d5,d7⟩ (fun d=>?_));simp only[Act.put];clear j K;refine wpAnyH_take (i:=11) (v:=.pointer (some ⟨p.wb,H,none⟩)) rfl (by kernel_rfl) (by kernel_rfl) (by kernel_rfl) (fun _ _ _ h=>h) (Or.inl ⟨by rfl,fun w9 f=>?_⟩) d ?_
     ·obtain⟨q,s⟩:=f
      go_simp
     simp only[Act.put];refine wpAnyH_ready (rs:=[12]) (by kernel_rfl) (by simp) ?_;refine AllReadyH.cons rfl (fun K j=>?_) AllReadyH.nil
     go_simp
     refine j.out _ _ ⟨s5,s7⟩ (fun d=>?_);clear j K;refine wpAnyH_done (by kernel_rfl) ?_ _;go_wp2_with fail;go_roundg (u - (i+1))
     case measure=>omega
     case rel=>exact⟨i+1,by simp,by omega,Nat.le_refl _,HF⟩
    ·go_simp
     refine j.out _ _ ⟨c9,d4⟩ (fun d=>?_);clear j K;refine wpAnyH_ready (rs:=[7]) (by kernel_rfl) (by simp) ?_;refine AllReadyH.cons rfl (fun K j=>?_) AllReadyH.nil
     go_simp
     refine j.out _ _ ⟨c9,d4⟩ (fun d=>?_);clear j K;refine wpAnyH_ready (rs:=[10]) (by kernel_rfl) (by simp) ?_;refine AllReadyH.cons rfl (fun K j=>?_) AllReadyH.nil;refine zc rfl (.tmp 35) (.tmp 37) rfl rfl (by simp[Act.eval]) (by simp[Act.eval]) Y (j.out _ _ ⟨d5,d7⟩ (fun d=>?_));simp only[Act.put];clear j K;refine wpAnyH_take (i:=11) (v:=.pointer (some ⟨p.wb,H,none⟩)) rfl (by kernel_rfl) (by kernel_rfl) (by kernel_rfl) (fun _ _ _ h=>h) (Or.inl ⟨by rfl,fun w9 f=>?_⟩) d ?_
     ·obtain⟨q,s⟩:=f
      go_simp
     simp only[Act.put];refine wpAnyH_ready (rs:=[12]) (by kernel_rfl) (by simp) ?_;refine AllReadyH.cons rfl (fun K j=>?_) AllReadyH.nil
     go_simp
     refine j.out _ _ ⟨s5,s7⟩ (fun d=>?_);clear j K;refine wpAnyH_done (by kernel_rfl) ?_ _;go_wp2_with fail;go_roundg (u - (i+1))
     case measure=>omega
     case rel=>exact⟨i+1,by simp,by omega,Nat.le_refl _,HF⟩
   ·have f6:¬(i:Int)<(u:Int):=by omega
    have HF:Hid (∃F G A t,H1 w wr h S p n u F G A t):=by
     have:i=u:=by omega
     subst this;exact J.out
    clear J;go_wp2_with fail;go_meet;exact HF
 case rest =>
  obtain⟨w8,g9⟩:∃w8,w8=wc:=⟨_,rfl⟩
  subst wc;obtain⟨F,G,A,t,y⟩:=hcut.out;obtain⟨c0,c1,c2,c3,c4,c5,c6,X⟩:=sbox y.yb.bs;rw[I.out,m.out]at X;have HY:Hid (H1 w w8 h S p n u F G A t):=y
  have b8:S.st<n:=by have:=o.out.1.st;have:=o.out.2.2;omega
  clear y hcut H7 HC R;go_wp2_with fail;refine(a5.out _ _ b8).mono ?_;rintro e V1 ⟨rfl,M⟩;clear c0 c1 c2 c3 c4 c5 c6 X;have B:Hid (H1 w V1 h S p n u F G A t):=HY.out.below M;clear HY M;obtain⟨-,-,c2,-,-,-,-,-⟩:=sbox B.out.yb.bs
  have m3:V1.cell? ⟨p.b3,0,none⟩=some (.pointer (some ⟨p.mb,0,none⟩)):=by rw[qe B.out.yb.bm];rfl
  have b0:Hid (MK n (List.replicate n false) []):=⟨by simp,List.nodup_nil,fun x E=>by cases E⟩
  go_wp2_with fail;refine(j7 V1 w.heap.size p.mb p.fb G n S.st F _ [] B.out.yb.mrk b0.out b8 hn B.out.yb.bel.size).mono ?_;rintro e V2 ⟨rfl,g0,g1,f7,f9⟩;clear m3 c2
  have c8:∀x,isF (List.replicate n false) x=true->False:=by
   intro x E;unfold isF at E
   cases hq:(List.replicate n false)[x]? with
   | none=>rw[hq]at E;cases E
   | some b =>
    rw[hq]at E;have:=List.mem_of_getElem? hq;rw[List.mem_replicate]at this;rw[this.2]at E
    cases E
  have HI:Hid (IH w h S p n A t V2 g0 g1 (mkd (List.replicate n false) [] S.st).1 (mkd (List.replicate n false) [] S.st).2):=by
   obtain⟨a1,a2,a3⟩:=y9 b0.out b8;refine⟨B.out.yb.mark f7 f9,a1.ok,?_,fun z hz=>?_,a2⟩
   ·rw[a1.pr];intro i r x y hr E hp hy;unfold prc at hp;simp only[Bool.and_eq_true]at hp;exact(c8 x hp.1).elim
   ·rcases a3 z hz with e | e
    ·exact(c8 z e).elim
    ·subst e;exact RcH.start
  have HW:Hid (t.length=n/\RlH S S.rs.length t/\∀(x:Nat) (l:List Nat),t[x]?=some l->l.length<=100000):=by
   have y1:=B.out;rw[<-m.out]at y1;exact⟨y1.wl,y1.rls,fun x l hl=>by have:=y1.rows x l hl;rw[m.out]at this;omega⟩
  have m3:V2.cell? ⟨p.b3,0,none⟩=some (.pointer (some ⟨p.mb,0,none⟩)):=by rw[qe HI.out.1.bm];rfl
  clear B f7 f9 c8 b0;generalize (mkd (List.replicate n false) [] S.st).1=fd at HI;generalize (mkd (List.replicate n false) [] S.st).2=fr at HI;go_wp2_with fail;refine(qb5 70 #[.pointer (some ⟨p.b5,0,none⟩),.pointer (some ⟨p.b1,0,none⟩),.pointer (some ⟨p.b3,0,none⟩)] ql4 w.heap.size p.mb n hn (IH w h S p n A t) qrb (qrd o.out.1 o.out.2.1 o.out.2.2 HW.out.1 HW.out.2.1 HW.out.2.2) V2 g0 g1 fd fr HI.out).mono ?_;rintro e V5 ⟨rfl,h8,h9,L,y5,a6,f2,f3,f5⟩
  have h2:V5.cell? ⟨p.b3,0,none⟩=some (.pointer (some ⟨p.mb,0,none⟩)):=by rw[qe y5.bm];rfl
  have h0:V5.cell? ⟨p.mb,0,none⟩=some (.slice (some ⟨p.fb,0,none⟩) n n):=by rw[qe y5.mrk.box,a6.len];rfl
  have HF:Hid (L.length=n/\V5.ownsRow w.heap.size 4 1 (.slice (some ⟨p.fb,0,none⟩) n n) n (booC L)/\ko (RcH S) L/\Below w.heap.size w V5):=by
   have h1:=y5.mrk.fnd;rw[a6.len]at h1
   have hC:ClH S (isF L) L:=fun i r x y hr E hp hy=>f2 i r x y hr E (by rw[qg7];exact hp) hy
   exact⟨a6.len,h1,qj5 hC f3 f5,y5.bel⟩
  clear y5 a6 f2 f3 f5 m3;go_wp2_with fail;go_ret;exact⟨p.fb,L,rfl,HF.out⟩
def hasT (tk:Nat) (r:SR):Bool:=r.r.any (fun z=>decide (z<tk))
def noT (S:Sp):Sp:=⟨S.tk,S.nt,S.st,S.ex,S.nm,S.lv,S.az,S.rs.filter (fun r=>!hasT S.tk r)⟩
def noH (S:Sp):Sp:=⟨S.tk,S.nt,S.st,S.ex,S.nm,S.lv,S.az,S.rs.drop 1⟩
theorem qhl{b:Nat}{r:SR}:hasT b r=false↔∀y∈r.r,b<=y:=by
 unfold hasT;rw[List.any_eq_false]
 constructor
 ·intro h y a;have:=h y a;rw[decide_eq_true_eq]at this;omega
 ·intro h y a;have:=h y a;rw[decide_eq_true_eq];omega
theorem ql5{S:Sp}(h:WF S):S.rs=⟨-1,[S.st],0,0⟩ :: S.rs.drop 1:=by
 have:=h.hd
 cases b:S.rs with
 | nil=>rw[b]at this;cases this
 | cons a l =>
  rw[b]at this
  cases this
  rfl
theorem qfo{S:Sp}{r:SR}(h:r∈S.rs.drop 1):∃j,0<j/\S.rs[j]?=some r:=by
 obtain⟨i,a⟩:=List.getElem?_of_mem h;rw[List.getElem?_drop]at a;exact⟨1+i,by omega,a⟩
theorem qfp{S:Sp}(h:WF S):(noT S).rs=⟨-1,[S.st],0,0⟩ :: (S.rs.drop 1).filter (fun r=>!hasT S.tk r):=by
 have b:hasT S.tk ⟨-1,[S.st],0,0⟩=false:=qhl.2 (fun y a=>by
  rw[List.mem_singleton]at a;subst a
  exact Nat.le_of_lt h.st.1)
 show S.rs.filter _=_;rw[ql5 h,List.filter_cons,b];rfl
theorem qod{S:Sp}(h:WF S){i:Nat}{r:SR}(b:0<i)(a:(noT S).rs[i]?=some r):r∈S.rs.drop 1/\hasT S.tk r=false:=by
 rw[qfp h]at a
 obtain⟨j,rfl⟩:∃j,i=j+1:=⟨i - 1,by omega⟩
 rw[List.getElem?_cons_succ]at a;have:=List.mem_filter.1 (List.mem_of_getElem? a);exact⟨this.1,by simpa using this.2⟩
theorem qr8{S:Sp}(h:WF S):WF (noT S):=by
 refine⟨h.nm,h.lv,h.az,h.tk,h.nt,Nat.le_trans (List.length_filter_le _ _) h.nr,?_,h.st,fun i r b a=>?_,fun r a=>h.rr r (List.mem_filter.1 a).1⟩
 ·rw[qfp h];rfl
 ·obtain⟨c,-⟩:=qod h b a;obtain⟨j,d,f⟩:=qfo c;exact h.rl j r d f
theorem ql6{S:Sp}(h:WF S){x:Nat}(C:S.tk<=x):Der (noT S) x↔Nul S x:=by
 constructor
 ·intro hd
  have:=hd (fun y=>y<S.tk\/Nul S y) (fun y b=>.inl b) (fun i r x g f d b=>by
   obtain⟨c,o⟩:=qod h g f;obtain⟨j,s,A⟩:=qfo c;refine .inr (Nul.rule j r x s A d (fun y a=>?_))
   rcases b y a with h3 | h3
   ·have:=qhl.1 o y a;omega
   ·exact h3)
  rcases this with c | c
  ·omega
  ·exact c
 ·intro v
  have:=v (fun y=>Der (noT S) y/\S.tk<y) (fun i r x g f d b=>by
   obtain⟨z,B,m,-⟩:=h.rl i r g f
   have n:z=x:=by rw[B]at d;omega
   subst n;have p:hasT S.tk r=false:=qhl.2 (fun y a=>Nat.le_of_lt (b y a).2)
   have l:1+(i - 1)=i:=by omega
   have u:r∈S.rs.drop 1:=List.mem_of_getElem? (i:=i - 1) (by rw[List.getElem?_drop,l];exact f)
   have q:r∈(S.rs.drop 1).filter (fun r=>!hasT S.tk r):=List.mem_filter.2 ⟨u,by rw[p];rfl⟩
   obtain⟨k,t⟩:=List.getElem?_of_mem q
   refine⟨Der.rule (k+1) r z (Nat.succ_pos k) (by rw[qfp h,List.getElem?_cons_succ];exact t) d (fun y a=>(b y a).1),m⟩)
  exact this.1
theorem qr9{S:Sp}(h:WF S):WH (noH S):=by
 refine⟨h.nm,h.tk,h.nt,?_,h.st,fun i r a=>?_,fun r a=>h.rr r (List.mem_of_mem_drop a)⟩
 ·show(S.rs.drop 1).length<=300;rw[List.length_drop];have:=h.nr;omega
 ·have a:(S.rs.drop 1)[i]?=some r:=a;rw[List.getElem?_drop]at a;exact h.rl (1+i) r (by omega) a
theorem qre{S:Sp}{x:Nat}:RcH (noH S) x↔Rch S x:=by
 constructor
 ·intro h;refine h (Rch S) Rch.start (fun i r x y a b c d=>?_);have a:(S.rs.drop 1)[i]?=some r:=a;rw[List.getElem?_drop]at a;exact Rch.rule (1+i) r x y (by omega) a b c d
 ·intro h;refine h (RcH (noH S)) RcH.start (fun i r x y f a b c d=>?_);refine RcH.rule (i - 1) r x y ?_ b c d;show(S.rs.drop 1)[i - 1]?=some r;rw[List.getElem?_drop]
  have:1+(i - 1)=i:=by omega
  rw[this];exact a
def okL (tk n:Nat) (r:SR):Bool:=decide ((tk:Int)<r.l/\r.l<(n:Int))
theorem qpv{S:Sp}(h:WF S):S.rs.filter (okL S.tk (S.tk+1+S.nt))=S.rs.drop 1:=by
 have a:okL S.tk (S.tk+1+S.nt) ⟨-1,[S.st],0,0⟩=false:=by
  unfold okL;rw[decide_eq_false_iff_not];simp only;omega
 have b:(S.rs.drop 1).filter (okL S.tk (S.tk+1+S.nt))=S.rs.drop 1:=List.filter_eq_self.2 (fun r d=>by
  obtain⟨j,c,f⟩:=qfo d;obtain⟨z,g,i,k⟩:=h.rl j r c f;unfold okL;rw[decide_eq_true_eq,g]
  omega)
 conv=>lhs;rw[ql5 h]
 rw[List.filter_cons,a,b];rfl
theorem qrf{W:World}{T E n b h:Nat}{a c:Option Addr}{i:TypeInfo}(g:Tryz.prog.underlying T=some (.slice E))(d:Tryz.prog.info? E=some i)(f:n<=b):
  (Builtin.append_ #[T,T] T #[.slice a n b,.slice c 0 h]).run Tryz.prog W=.ok (.slice a n b) W:=by
 cases a <;> cases c <;> simp[Builtin.append_,run_underlying g,sizeOf,typeInfo,d,Builtin.lenOf,Builtin.firstCells,f,loadCells,loadCellsFrom,storeCells]
theorem qoe{W:World}{B T E k n O m y:Nat}{v Q:Option Addr}{z:Value}{by_:Nat}{cs us:List Value}(M:Tryz.prog.underlying T=some (.slice E))(D:(Tryz.prog.info? E).map (fun i=>(i.zero,i.size,i.bytes))=some (some z,k,by_))(s:z.cells.size=k)(K:0<k)(C:by_<=100)(d:∀u∈us,u.oneCell'=true)(h:W.ownsRow B E k (.slice v n O) n cs)(S:B<=W.heap.size)(H:Row W k Q m y us)(hn:n+m<1000000)(X:0<m):
  ∃g c A,(Builtin.append_ #[T,T] T #[.slice v n O,.slice Q m y]).run Tryz.prog W=.ok (.slice (some ⟨g,0,none⟩) (n+m) c) A/\A.ownsRow B E k (.slice (some ⟨g,0,none⟩) (n+m) c) (n+m) (cs++us) /\
   Kept (fun j=>blk v=some j) W A/\(blk v=some g\/W.heap.size<=g):=by
 obtain⟨N,J,p,q,r⟩:=info_parts D;obtain⟨b,o,rfl,U⟩:=H.at X
 have a:∀j x,us[j]?=some x->W.cell? ((⟨b,o,none⟩:Addr).add j)=some x:=fun j x V=>by
  rw[Addr.add_lit];exact U j x V
 have f:(n+m) * by_<=140737488355328:=Nat.le_trans (Nat.mul_le_mul (by omega:n+m<=1000000) C) (by decide);obtain⟨v',Y,L,I,Z,-⟩:=run_append_own (P:=Tryz.prog) W B T T E N _ k by_ M J p q r s K _ n _ h ⟨b,o,none⟩ m y us H.len a d (by unfold maxLen;omega) f S
 obtain⟨v1,w1,l,-,F,G⟩:=qai (P:=Tryz.prog) W T T E N _ k by_ M J p q r s K _ n _ (zd h (Nat.zero_le _)) ⟨b,o,none⟩ m y us H.len a d (by unfold maxLen;omega) f
 rw[L]at l
 injection l with e1 e2
 subst e1 e2;obtain⟨R,c,rfl,h4,h5,t⟩:=zh I
 obtain⟨g,rfl⟩:∃g,R=some ⟨g,0,none⟩:=by
  rcases t with ⟨-,t,-⟩ | t
  ·omega
  ·exact t
 refine⟨g,c,Y,L,I,F.weaken (fun k e=>zi e),?_⟩
 rcases G g rfl with h7 | h7
 ·exact .inl (zi h7)
 ·exact .inr h7
theorem qpw(l:List Nat):∀u∈natC l,u.oneCell'=true:=by
 intro u a;obtain⟨x,-,rfl⟩:=List.mem_map.1 a;rfl
theorem qpx(l m:List Nat):natC (l++m)=natC l++natC m:=by unfold natC;rw[List.map_append]
theorem qrg{W:World}{B n d m p:Nat}{b o:Option Addr}{l us:List Nat}(h:W.ownsRow B 3 1 (.slice b n d) n (natC l))(s:B<=W.heap.size)(k:Row W 1 o m p (natC us))(y:n+m<1000000):
  ∃f c a,(Builtin.append_ #[26,26] 26 #[.slice b n d,.slice o m p]).run Tryz.prog W=.ok (.slice f (n+m) c) a/\a.ownsRow B 3 1 (.slice f (n+m) c) (n+m) (natC (l++us)) /\
   Kept (fun j=>blk b=some j) W a/\∀g,blk f=some g->blk b=some g\/W.heap.size<=g:=by
 by_cases x:0<m
 ·obtain⟨g,c,a,A,z,v,t⟩:=qoe u29 i3 rfl (by decide) (by decide) (qpw us) h s k y x;refine⟨_,c,a,A,by rw[qpx];exact z,v,fun q e=>by cases e;exact t⟩
 ·have r:m=0:=by omega
  subst r;have i:=k.len;rw[js,Nat.zero_mul]at i;have:us=[]:=List.length_eq_zero_iff.1 i;subst this;obtain⟨C,u,-⟩:=info_parts i3;refine⟨b,d,W,qrf u29 u (z8 h).1,by rw[List.append_nil];exact h,Kept.refl _ _,fun q e=>.inl e⟩
theorem ql7{W:World}{B n m:Nat}{b:Option Addr}{l:List Nat}(h:W.ownsRow B 3 1 (.slice b n m) n (natC l))(d:B<=W.heap.size)(p:n<100000)(y:Nat):
  ∃g c a,(Builtin.append_ #[26,26] 26 #[.slice b n m,.slice (some ⟨W.heap.size,0,none⟩) 1 1]).run Tryz.prog (W.alloc (.cells #[.int .i64 (y:Int)] 3))=.ok (.slice (some ⟨g,0,none⟩) (n+1) c) a/\a.ownsRow B 3 1 (.slice (some ⟨g,0,none⟩) (n+1) c) (n+1) (natC (l++[y]))/\Kept (fun j=>blk b=some j) W a/\Below B W a:=by
 obtain⟨g,c,a,r,q,o,-⟩:=jc (us:=[.int .i64 (y:Int)]) u29 i3 rfl (by decide) (by decide) rfl (fun u f=>by rw[List.mem_singleton]at f;subst f;rfl) h d p
 have i:Kept (fun j=>blk b=some j) W a:=((Kept.refl _ W).alloc _).trans o (fun k _ e=>zi e);exact⟨g,c,a,r,by rw[jf];exact q,i,i.below d (fun j s e=>by have:=(qw h e).1;omega)⟩
abbrev QR:=SR × Option Addr × Nat
theorem jq(qs:List QR):(srC qs).length=qs.length * 4:=by
 unfold srC;exact qcq _ (fun _=>rfl) qs
theorem qsa{qs:List QR}{i:Nat}{q:QR}(h:qs[i]?=some q)(j:Nat)(b:j<4):(srC qs)[i * 4+j]?=[Value.int .i64 q.1.l,.slice q.2.1 q.1.r.length q.2.2,.int .i64 q.1.lv,.int .i64 q.1.a][j]? :=
 qas (fun q:QR=>[Value.int .i64 q.1.l,.slice q.2.1 q.1.r.length q.2.2,.int .i64 q.1.lv,.int .i64 q.1.a]) (fun _=>rfl) qs i q j h b
theorem qrh(qs:List QR):∀u∈srC qs,u.oneCell'=true:=by
 intro u a;obtain⟨q,-,h⟩:=List.mem_flatMap.1 a;simp only[List.mem_cons,List.not_mem_nil,or_false]at h
 rcases h with rfl | rfl | rfl | rfl <;> rfl
theorem ql8:∀{qs:List QR} {i:Nat} {q:QR},i<qs.length->((((srC qs).set (i * 4) (.int .i64 q.1.l)).set (i * 4+1) (.slice q.2.1 q.1.r.length q.2.2)).set (i * 4+2) (.int .i64 q.1.lv)).set (i * 4+3) (.int .i64 q.1.a)=srC (qs.set i q)
 | [],_,_,h=>absurd h (Nat.not_lt_zero _)
 | _ :: _,0,_,_=>rfl
 | p :: qs,i+1,q,h=>by
  have c:=ql8 (qs:=qs) (i:=i) (q:=q) (by simpa using h)
  have e:∀(p:QR) (qs:List QR),srC (p :: qs)=.int .i64 p.1.l :: .slice p.2.1 p.1.r.length p.2.2 :: .int .i64 p.1.lv :: .int .i64 p.1.a :: srC qs:=fun _ _=>rfl
  have b:(i+1) * 4=i * 4+1+1+1+1:=by omega
  rw[e,List.set_cons_succ,e,b];simp only[List.set_cons_succ];rw[c]
theorem qpy(qs:List QR)(i:Nat):(srC qs).take (i * 4)=srC (qs.take i):=by
 induction i generalizing qs with
 | zero=>simp[srC]
 | succ i ih =>
  cases qs with
  | nil=>simp[srC]
  | cons p qs =>
   have e:∀(p:QR) (qs:List QR),srC (p :: qs)=.int .i64 p.1.l :: .slice p.2.1 p.1.r.length p.2.2 :: .int .i64 p.1.lv :: .int .i64 p.1.a :: srC qs:=fun _ _=>rfl
   have b:(i+1) * 4=i * 4+1+1+1+1:=by omega
   rw[e,List.take_succ_cons,e,b];simp only[List.take_succ_cons];rw[ih]
theorem qpz{V:World}{B g n c i:Nat}{cs:List QR}(h:V.ownsRow B 47 4 (.slice (some ⟨g,0,none⟩) n c) n (srC cs))(f:i<n)(q:QR):
  ((((V.setCell ⟨g,i * 4,none⟩ (.int .i64 q.1.l)).setCell ⟨g,i * 4+1,none⟩ (.slice q.2.1 q.1.r.length q.2.2)).setCell ⟨g,i * 4+2,none⟩ (.int .i64 q.1.lv)).setCell ⟨g,i * 4+3,none⟩ (.int .i64 q.1.a)).ownsRow B 47 4 (.slice (some ⟨g,0,none⟩) n c) n (srC (cs.set i q)):=by
 have d:=h.1;rw[jq]at d;have b:=(((((h.stored (i * 4) (.int .i64 q.1.l)).1).stored (i * 4+1) (.slice q.2.1 q.1.r.length q.2.2)).1.stored (i * 4+2) (.int .i64 q.1.lv)).1.stored (i * 4+3) (.int .i64 q.1.a)).1;rw[ql8 (by omega)]at b;exact b
theorem qof{V:World}{g i:Nat}{a b d e:Value}:Kept (fun k=>k=g) V ((((V.setCell ⟨g,i * 4,none⟩ a).setCell ⟨g,i * 4+1,none⟩ b).setCell ⟨g,i * 4+2,none⟩ d).setCell ⟨g,i * 4+3,none⟩ e) :=
 Kept.setCell (S:=fun k=>k=g) (Kept.setCell (S:=fun k=>k=g) (Kept.setCell (S:=fun k=>k=g) (Kept.setCell (S:=fun k=>k=g) (Kept.refl _ V) ⟨g,i * 4,none⟩ a (fun _=>rfl)) ⟨g,i * 4+1,none⟩ b (fun _=>rfl)) ⟨g,i * 4+2,none⟩ d (fun _=>rfl)) ⟨g,i * 4+3,none⟩ e (fun _=>rfl)
theorem qp0(V:World)(g:Nat)(cs:Array Value):Kept (fun k=>k=g) V (V.setRow g cs):=by
 refine⟨rfl,rfl,rfl,by simp[World.setRow],fun k b a=>?_⟩;unfold World.setRow;rw[Array.getElem?_modify];rw[if_neg (fun e=>a e.symm)]
theorem qog{V:World}{B g n c i:Nat}{cs:List QR}(h:V.ownsRow B 47 4 (.slice (some ⟨g,0,none⟩) n c) n (srC cs))(x:i<n):
  ∃l,(∀q,(Builtin.clear_ #[29] q #[.slice (some ⟨g,i * 4,none⟩) (n - i) (c - i)]).run Tryz.prog V=.ok (.tuple #[]) l)/\l.ownsRow B 47 4 (.slice (some ⟨g,0,none⟩) i c) i (srC (cs.take i))/\Kept (fun k=>k=g) V l:=by
 obtain⟨y,r,p,t,u⟩:=info_parts i62
 rcases h.2 with ⟨d,-⟩ | ⟨g',c',cur,d,hb,hh,h2,h3,h4,h5⟩
 ·cases d
 cases d
 obtain⟨m,s⟩:∃m,n - i=m+1:=⟨n - i - 1,by omega⟩
 have b:(Builtin.zeroCells (Value.agg #[.int .i64 0,.slice none 0 0,.int .i64 0,.int .i64 0]).cells (m+1)).toList.length=(m+1) * 4:=by
  simp[Builtin.zeroCells,Value.cells]
 have a:∀v∈(Builtin.zeroCells (Value.agg #[.int .i64 0,.slice none 0 0,.int .i64 0,.int .i64 0]).cells (m+1)).toList,v.oneCell'=true:=by
  intro v d;simp only[Builtin.zeroCells,Array.toList_map,List.mem_map]at d;obtain⟨j,-,rfl⟩:=d
  have:j % 4=0\/j % 4=1\/j % 4=2\/j % 4=3:=by omega
  simp only[Value.cells]
  rcases this with e | e | e | e <;> simp[e] <;> rfl
 obtain⟨zs,f⟩:∃zs,Builtin.zeroCells (Value.agg #[.int .i64 0,.slice none 0 0,.int .i64 0,.int .i64 0]).cells (m+1)=zs:=⟨_,rfl⟩
 rw[f]at b a;have o:=run_storeCells_at (P:=Tryz.prog) g (i * 4) 47 zs.toList 0 cur V hh (by rw[b];omega) a
 refine⟨V.setRow g (cur.toList.take (i * 4+0)++zs.toList++cur.toList.drop (i * 4+0+zs.toList.length)).toArray,fun q=>?_,?_,qp0 V g _⟩
 ·rw[s];simp only[Builtin.clear_];simp[run_underlying u30,zeroValue,r,p,typeInfo,f,o]
 ·refine⟨by rw[jq,List.length_take];have:=h.1;rw[jq]at this;omega,.inr ⟨g,c,_,rfl,hb,setRow_heap _ _ _ _ _ _ hh,by omega,h3,?_,?_⟩⟩
  ·rw[List.size_toArray,List.length_append,List.length_append,List.length_take,List.length_drop,b,Array.length_toList];omega
  ·rw[<-qpy,<-h5];simp only[Nat.add_zero];rw[List.append_assoc,List.take_append_of_le_length (by rw[List.length_take,Array.length_toList];omega),List.take_take,List.take_take,Nat.min_self,Nat.min_eq_left (by omega)]
theorem qm4{V:World}{B g n c i:Nat}{cs:List QR}(h:V.ownsRow B 47 4 (.slice (some ⟨g,0,none⟩) n c) n (srC cs))(v:i<n)(v0 v1 v2:Value):
  ∃f k l m,V.cell? ⟨g,i * 4,none⟩=some f/\(V.setCell ⟨g,i * 4,none⟩ v0).cell? ⟨g,i * 4+1,none⟩=some k/\((V.setCell ⟨g,i * 4,none⟩ v0).setCell ⟨g,i * 4+1,none⟩ v1).cell? ⟨g,i * 4+2,none⟩=some l/\(((V.setCell ⟨g,i * 4,none⟩ v0).setCell ⟨g,i * 4+1,none⟩ v1).setCell ⟨g,i * 4+2,none⟩ v2).cell? ⟨g,i * 4+3,none⟩=some m/\V.frozen? ⟨g,i * 4,none⟩=false/\(V.setCell ⟨g,i * 4,none⟩ v0).frozen? ⟨g,i * 4+1,none⟩=false/\((V.setCell ⟨g,i * 4,none⟩ v0).setCell ⟨g,i * 4+1,none⟩ v1).frozen? ⟨g,i * 4+2,none⟩=false/\(((V.setCell ⟨g,i * 4,none⟩ v0).setCell ⟨g,i * 4+1,none⟩ v1).setCell ⟨g,i * 4+2,none⟩ v2).frozen? ⟨g,i * 4+3,none⟩=false:=by
 have b:=(h.stored (i * 4) v0).1;have d:=(b.stored (i * 4+1) v1).1;have o:=(d.stored (i * 4+2) v2).1
 have a:∀{U:World} {xs:List Value} (j:Nat),U.ownsRow B 47 4 (.slice (some ⟨g,0,none⟩) n c) n xs->j<n * 4->∃u,U.cell? ⟨g,j,none⟩=some u:=fun {U xs} j p x=>by
  have y:=p.1;exact⟨xs[j]'(by omega),by rw[p.cellAt j (by omega)];exact List.getElem?_eq_getElem _⟩
 obtain⟨f,q⟩:=a (i * 4) h (by omega);obtain⟨k,r⟩:=a (i * 4+1) b (by omega);obtain⟨l,s⟩:=a (i * 4+2) d (by omega);obtain⟨m,t⟩:=a (i * 4+3) o (by omega);exact⟨f,k,l,m,q,r,s,t,h.frozenAt _,b.frozenAt _,d.frozenAt _,o.frozenAt _⟩
end Go.Proofs.YtngclmglmhiljaaGreatDoor
