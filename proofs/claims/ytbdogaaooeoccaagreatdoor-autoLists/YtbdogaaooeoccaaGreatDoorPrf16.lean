/- Texts that the proofs of the Auto statements stand on, part Prf16. -/
import Derived.Carry
import Derived.Shelf.SlIterI.Nil
import Derived.Shelf.SortM.Plain
import Derived.Shelf.SortM.SortNone
import Derived.Test.YtbdogaaooeoccaaGreatDoorPrf15
set_option maxHeartbeats 16000000
set_option maxRecDepth 100000
namespace Go.Proofs.YtbdogaaooeoccaaGreatDoor
open Go.RowKit
theorem u80:Tryz.prog.underlying 80=some (.map 3 46):=by kernel_rfl
def upd {α:Type} (f:Nat->α) (z:Nat) (v:α):Nat->α:=fun y=>if y=z then v else f y
theorem x9{α:Type}(f:Nat->α)(z:Nat)(v:α):upd f z v z=v:=if_pos rfl
theorem kz{α:Type}(f:Nat->α){z y:Nat}(v:α)(h:y≠z):upd f z v y=f y:=if_neg h
structure KM (B:Nat) (wr:World) (n mb:Nat) (q:Nat->Option Addr × Nat) (l:Nat->List It) (dom:List Nat):Prop where
 nb:B<=mb
 hB:B<=wr.heap.size
 mp:MpR wr mb (.slice none 0 0) dom (fun z=>.slice (q z).1 (l z).length (q z).2)
 row:∀z,wr.ownsRow B 54 2 (.slice (q z).1 (l z).length (q z).2) (l z).length (itC (l z))
 dis:∀y z k:Nat,y≠z->blk (q y).1=some k->blk (q z).1≠some k
 dm:∀z,z∈dom↔l z≠[]
 dl:∀z∈dom,z<n
theorem KM.below{B:Nat}{wr b:World}{n d:Nat}{q:Nat->Option Addr × Nat}{l:Nat->List It}{a:List Nat}(h:KM B wr n d q l a)(c:Below wr.heap.size wr b):KM B b n d q l a :=
 ⟨h.nb,Nat.le_trans h.hB c.size,h.mp.below c,fun z=>zl (h.row z) c,h.dis,h.dm,h.dl⟩
theorem KM.dlen{B:Nat}{wr:World}{n b:Nat}{q:Nat->Option Addr × Nat}{l:Nat->List It}{a:List Nat}(h:KM B wr n b q l a):a.length<=n:=by
 obtain⟨m,D,-,-,hd⟩:=h.mp.ow;exact qb2 n a hd.nd h.dl
theorem qug(W:World)(n:Nat):KM W.heap.size (W.alloc (.map #[] 0)) n W.heap.size (fun _=>(none,0)) (fun _=>[]) [] :=
 ⟨Nat.le_refl _,(qb _ _).size,qcf W _,fun _=>World.ownsRow_nil _ _ 54 2,fun _ _ _ _ h=>(by cases h),fun z=>⟨fun a=>(by cases a),fun a=>absurd rfl a⟩,fun z a=>(by cases a)⟩
theorem KM.add{B:Nat}{V:World}{n s:Nat}{q:Nat->Option Addr × Nat}{l:Nat->List It}{f:List Nat}(h:KM B V n s q l f)(X:n<=1000){z:Nat}(U:z<n)(x:It)(R:(l z).length<100000):
  ∃g c o a,(Builtin.append_ #[46,46] 46 #[.slice (q z).1 (l z).length (q z).2,.slice (some ⟨V.heap.size,0,none⟩) 1 1]).run Tryz.prog (V.alloc (.cells #[.int .i64 (x.1:Int),.int .i64 (x.2:Int)] 54))=.ok (.slice (some ⟨g,0,none⟩) ((l z).length+1) c) o /\
   (Instr.mapUpdate 80 (.map (some s)) (.int .i64 (z:Int)) (.slice (some ⟨g,0,none⟩) ((l z).length+1) c)).run Tryz.prog o=.ok () a/\KM B a n s (upd q z (some ⟨g,0,none⟩,c)) (upd l z (l z++[x])) (domI f z)/\Below B V a:=by
 obtain⟨g,c,o,S,N,r,O,Q⟩:=qsd (h.row z) h.hB R x
 have J:¬blk (q z).1=some s:=fun e=>h.mp.ne (qw (h.row z) e).2.2 rfl
 have C:MpR o s (.slice none 0 0) f (fun z=>.slice (q z).1 (l z).length (q z).2):=h.mp.keep (r.block s h.mp.lt J);have P:=h.dlen;obtain⟨a,K,I,d⟩:=C.store u80 z (by omega) (by omega) (.slice (some ⟨g,0,none⟩) ((l z).length+1) c);refine⟨g,c,o,a,S,K,⟨h.nb,?_,?_,fun y=>?_,fun y L k m t p=>?_,fun y=>?_,fun y T=>?_⟩,?_⟩
 ·exact Nat.le_trans h.hB (Nat.le_trans r.size d.size)
 ·have e:(fun y=>if y=z then Value.slice (some ⟨g,0,none⟩) ((l z).length+1) c else .slice (q y).1 (l y).length (q y).2)=fun y=>.slice (upd q z (some ⟨g,0,none⟩,c) y).1 (upd l z (l z++[x]) y).length (upd q z (some ⟨g,0,none⟩,c) y).2:=by
   funext y
   by_cases e:y=z
   ·subst e;rw[if_pos rfl,x9,x9,List.length_append];rfl
   ·rw[if_neg e,kz _ _ e,kz _ _ e]
  rw[<-e];exact I
 ·by_cases e:y=z
  ·subst e;rw[x9,x9,List.length_append];refine qh N (fun i H=>?_)
   cases H
   have:=(qw N (b:=g) rfl).2;exact d.block g this.1 (fun e=>C.ne this.2 e)
  ·rw[kz _ _ e,kz _ _ e];have D:=h.row y;refine qh D (fun i H=>?_);have A:=ze H;have j:=qw D A;rw[d.block i (Nat.lt_of_lt_of_le j.2.1 r.size) (fun E=>h.mp.ne j.2.2 E)];exact r.block i j.2.1 (fun E=>h.dis y z i e A E)
 ·have old:∀u:Nat,u≠z->blk (q u).1=some g->False:=fun u K v=>by
   rcases Q with h1 | h1
   ·exact h.dis u z g K v h1
   ·have:=(qw (h.row u) v).2.1;omega
  by_cases F:y=z
  ·subst F;rw[x9]at t;rw[kz _ _ (fun e=>m e.symm)]at p
   cases t
   exact old L (fun e=>m e.symm) p
  ·rw[kz _ _ F]at t
   by_cases M:L=z
   ·subst M;rw[x9]at p
    cases p
    exact old y F t
   ·rw[kz _ _ M]at p;exact h.dis y L k m t p
 ·rw[qa1]
  by_cases e:y=z
  ·subst e;rw[x9];exact⟨fun _=>by simp,fun _=>.inl rfl⟩
  ·rw[kz _ _ e,h.dm y];exact⟨fun h=>h.elim (fun h=>absurd h e) id,.inr⟩
 ·rcases qa1.1 T with rfl | e
  ·exact U
  ·exact h.dl y e
 ·have G:Below B o a:=d.below (Nat.le_trans h.hB r.size) (fun k r e=>by have:=h.nb;omega)
  exact O.trans G
theorem qlk{S:Sp}{L:List It}{k:Nat}{x:It}(b:L[k]?=some x)(y:Nat):nxt S (L.take (k+1)) y=nxt S (L.take k) y++(if ahd S x=some y then [(x.1,x.2+1)] else []):=by
 obtain⟨a,rfl⟩:=List.getElem?_eq_some_iff.1 b;rw[List.take_succ_eq_append_getElem a,qrw]
theorem qr5{S:Sp}{L:List It}{k:Nat}{x:It}(b:L[k]?=some x)(a:ahd S x=none):nxt S (L.take (k+1))=nxt S (L.take k):=by
 funext y;rw[qlk b,a,if_neg (by simp),List.append_nil]
theorem qtk{S:Sp}{L:List It}{k z:Nat}{x:It}(c:L[k]?=some x)(b:ahd S x=some z):nxt S (L.take (k+1))=upd (nxt S (L.take k)) z (nxt S (L.take k) z++[(x.1,x.2+1)]):=by
 funext y;rw[qlk c,b]
 by_cases e:y=z
 ·subst e;rw[if_pos rfl,x9]
 ·rw[if_neg (fun a=>by injection a with a;exact e a.symm),kz _ _ e,List.append_nil]
theorem qjm(w:World)(P rb:Nat)(h:SHd)(S:Sp)(n:Nat)(G:NSp S n)(g:GQ w P rb h S n)(L:List It)(ia:Option Addr)(m ic:Nat)(I:ItR w ia m ic L)(E:∀x∈L,OkI S x)(hm:m<=840):
  Calls Tryz.prog 35 #[.pointer (some ⟨P,0,none⟩),.slice ia m ic] w fun e w'=>∃(f:Nat) (q:Nat->Option Addr × Nat) (a:List Nat),e=.returned (.map (some f))/\KM w.heap.size w' n f q (nxt S L) a/\Below w.heap.size w w':=by
 have hn:n<=301:=by have:=G.nn;have:=G.wf.tk;have:=G.wf.nt;omega
 have v:=hid4 G g I E;have N:=hid (yz I);have qi:=zk I
 obtain⟨f,R,l⟩:∃f,(Instr.makeMap 80 none).run Tryz.prog w=.ok (.map (some f)) (w.alloc (.map #[] 0))/\Hid (KM w.heap.size (w.alloc (.map #[] 0)) n f (fun _=>(none,0)) (nxt S (L.take 0)) []/\Below w.heap.size w (w.alloc (.map #[] 0))):=⟨w.heap.size,run_makeMap 80 w,qug w n,qb _ _⟩
 clear G g I E;go_enter Tryz.func35,Tryz.ntmps35
 go_upto_region 2 with fail
 clear R;generalize w.alloc (.map #[] 0)=Z at l ⊢;go_wp2_with fail
 go_loopg [12] m (fun kx s12 wr=>∃k:Nat,s12=.int .i64 (k:Int)/\k<=m/\m - k<=kx/\Hid (Below w.heap.size w wr/\∃q a,KM w.heap.size wr n f q (nxt S (L.take k)) a))
 case atStart=>exact⟨0,rfl,Nat.zero_le _,by omega,(⟨l.out.2,_,_,l.out.1⟩:Below w.heap.size w Z/\∃q a,KM w.heap.size Z n f q (nxt S (L.take 0)) a)⟩
 case round =>
  clear l;obtain⟨k,rfl,hk,hg,J⟩:=hrel
  by_cases t:k<m
  ·have D:(k:Int)<(m:Int):=by omega
   obtain⟨H,q,a,d⟩:=J.out
   obtain⟨x,K⟩:∃x,L[k]?=some x:=⟨L[k]'(by rw[N.out];exact t),List.getElem?_eq_getElem _⟩
   obtain⟨b1,o1,Q,c1,d1⟩:=qe5 (v.out.2.2.1.below H) K;subst Q;have s:=v.out.2.2.2 x (List.mem_of_getElem? K);have U:Below wr.heap.size wr (wr.alloc (.cells #[.int .i64 (x.1:Int),.int .i64 (x.2:Int)] 54)):=qb _ _;have C:(wr.alloc (.cells #[.int .i64 (x.1:Int),.int .i64 (x.2:Int)] 54)).heap[wr.heap.size]?=some (.cells #[.int .i64 (x.1:Int),.int .i64 (x.2:Int)] 54 (0,0)):=heap_alloc_new _ _;have H1:=hid3 (qd H U) (d.below U) C;have o:=hid2 K s;clear J d U C K s
   go_upto_region 5 with fail
   clear c1 d1;generalize wr.heap.size=M at H1 ⊢;generalize wr.alloc (.cells #[.int .i64 (x.1:Int),.int .i64 (x.2:Int)] 54)=O at H1 ⊢
   have t0:O.cell? ⟨M,0,none⟩=some (.int .i64 (x.1:Int)):=by rw[qe H1.out.2.2];rfl
   have t1:O.cell? ⟨M,1,none⟩=some (.int .i64 (x.2:Int)):=by rw[qe H1.out.2.2];rfl
   have Y:=hid (qfl O P rb h S n v.out.1 (v.out.2.1.below H1.out.1) x o.out.2);go_wp2_with fail;refine Y.out.mono ?_;rintro e V ⟨rfl,p⟩;have j:=hid3 (qd H1.out.1 p) (H1.out.2.1.below p) (qf p H1.out.2.2);clear p Y H1 t0 t1
   cases b:ahd S x with
   | none =>
    have i:=qf7 b
    have y:Hid (Below w.heap.size w V/\∃q a,KM w.heap.size V n f q (nxt S (L.take (k+1))) a):=⟨j.out.1,q,a,by rw[qr5 o.out.1 b];exact j.out.2.1⟩
    rw[i];clear i b;go_wp2_with fail;go_roundg (m - (k+1))
    case measure=>omega
    case rel=>exact⟨k+1,by simp,t,Nat.le_refl _,y⟩
   | some z =>
    have i:=qf6 b
    have X:z<n:=by
     obtain⟨r,u,F⟩:=qlb b;exact(v.out.1.sy r (List.mem_of_getElem? u) z (List.mem_of_getElem? F)).1
    have a3:decide ((z:Int) ≥ 0)=true:=decide_eq_true (by omega)
    have a2:(nxt S (L.take k) z).length<=840:=by
     have:=qg6 S (L.take k) z;rw[List.length_take,N.out]at this;omega
    have a0:x.2<=20:=by
     obtain⟨r,u,F⟩:=o.out.2;have:=v.out.1.ln r (List.mem_of_getElem? u);omega
    have a1:=j.out.2.1.mp.look u80 (Tryz.zeroValue46 _) z (by omega);obtain⟨g,c,W',A,T,hu,d,B⟩:=j.out.2.1.add (by omega) X (x.1,x.2+1) (by omega)
    have y:Hid (Below w.heap.size w A/\∃q a,KM w.heap.size A n f q (nxt S (L.take (k+1))) a):=⟨j.out.1.trans B,_,_,by rw[qtk o.out.1 b];exact d⟩
    have ql:=zq (j.out.2.1.row z)
    have t0:V.cell? ⟨M,0,none⟩=some (.int .i64 (x.1:Int)):=by rw[qe j.out.2.2];rfl
    have t1:V.cell? ⟨M,1,none⟩=some (.int .i64 (x.2:Int)):=by rw[qe j.out.2.2];rfl
    simp only at T
    have e1:((x.2+1:Nat):Int)=(x.2:Int)+1:=by omega
    rw[e1]at T;rw[i]
    generalize (nxt S (L.take k) z).length=lz at *
    generalize (q z).1=qa at *
    generalize (q z).2=qc at *
    clear i b d B j;go_wp2_with(at_builtin;refine Lib.wpList_append_run _ rfl _ _ _ _ rfl _ _ rfl rfl _ _ T ?_)
    go_roundg (m - (k+1))
    case measure=>omega
    case rel=>exact⟨k+1,by simp,t,Nat.le_refl _,y⟩
  ·have D:¬(k:Int)<(m:Int):=by omega
   have y:Hid (Below w.heap.size w wr/\∃q a,KM w.heap.size wr n f q (nxt S L) a):=by
    have e:L.take k=L:=List.take_of_length_le (by rw[N.out];omega)
    have:=J.out;rw[e]at this;exact this
   clear J;go_wp2_with fail;go_ret;obtain⟨H,q,a,d⟩:=y.out;exact⟨f,rfl,⟨q,a,d⟩,H⟩
theorem u68:Tryz.prog.underlying 68=some (.slice 74):=by kernel_rfl
theorem u72:Tryz.prog.underlying 72=some (.map 3 3):=by kernel_rfl
theorem i74:(Tryz.prog.info? 74).map (fun i=>(i.zero,i.size,i.bytes))=some (some (.agg #[.slice none 0 0,.slice none 0 0,.map none]),3,56):=by kernel_rfl
structure Sta where
 ka:Option Addr
 kc:Nat
 ia:Option Addr
 ic:Nat
 mb:Nat
 K:List It
 L:List It
def sta3 (s:Sta):List Value:=[.slice s.ka s.K.length s.kc,.slice s.ia s.L.length s.ic,.map (some s.mb)]
def stC (ss:List Sta):List Value:=ss.flatMap sta3
theorem qhb{a:List Sta}{i:Nat}{s:Sta}(h:a[i]?=some s)(j:Nat)(b:j<3):(stC a)[i * 3+j]?=(sta3 s)[j]?:=vm sta3 (fun _=>rfl) a i s j h b
theorem qr6(a:List Sta)(s:Sta):stC (a++[s])=stC a++sta3 s:=by
 unfold stC;rw[List.flatMap_append];simp
abbrev Lds:=Nat->List Nat × (Nat->Value)
def zI:Value:=.int .i64 0
def ld0:List Nat × (Nat->Value):=([],fun _=>zI)
structure AM (B:Nat) (W:World) (ab:Nat) (sa:Option Addr) (sc:Nat) (ss:List Sta) (ld:Lds):Prop where
 box:W.heap[ab]?=some (.cells #[.slice sa ss.length sc] 70 (0,0))
 nb:B<=ab
 hB:B<=W.heap.size
 own:W.ownsRow B 74 3 (.slice sa ss.length sc) ss.length (stC ss)
 ker:∀(i:Nat) (s:Sta),ss[i]?=some s->W.ownsRow B 54 2 (.slice s.ka s.K.length s.kc) s.K.length (itC s.K)
 itm:∀(i:Nat) (s:Sta),ss[i]?=some s->W.ownsRow B 54 2 (.slice s.ia s.L.length s.ic) s.L.length (itC s.L)
 mpb:∀(i:Nat) (s:Sta),ss[i]?=some s->MpR W s.mb zI (ld i).1 (ld i).2/\B<=s.mb
 mdi:∀(i j:Nat) (s s':Sta),i≠j->ss[i]?=some s->ss[j]?=some s'->s.mb≠s'.mb
def ANot (W:World) (ab:Nat) (sa:Option Addr) (ss:List Sta) (F:Nat->Prop):Prop:=¬F ab/\(∀k,blk sa=some k->¬F k)/\(∀k,Loc W k 54->¬F k)/\∀s∈ss,¬F s.mb
theorem AM.kept{B:Nat}{W l:World}{d:Nat}{f:Option Addr}{o:Nat}{g:List Sta}{n:Lds}{F:Nat->Prop}(h:AM B W d f o g n)(k:Kept F W l)(t:ANot W d f g F):AM B l d f o g n:=by
 obtain⟨p,q,m,r⟩:=t;refine⟨?_,h.nb,Nat.le_trans h.hB k.size,?_,fun i s c=>?_,fun i s c=>?_,fun i s c=>?_,h.mdi⟩
 ·rw[k.block d (Array.getElem?_eq_some_iff.1 h.box).1 p];exact h.box
 ·exact qh h.own (fun j b=>k.block j (qw h.own (ze b)).2.1 (q j (ze b)))
 ·have a:=h.ker i s c;exact qh a (fun j b=>k.block j (qw a (ze b)).2.1 (m j (qw a (ze b)).2.2))
 ·have a:=h.itm i s c;exact qh a (fun j b=>k.block j (qw a (ze b)).2.1 (m j (qw a (ze b)).2.2))
 ·have a:=h.mpb i s c;exact⟨a.1.keep (k.block s.mb a.1.lt (r s (List.mem_of_getElem? c))),a.2⟩
theorem AM.below{B:Nat}{W a:World}{b:Nat}{d:Option Addr}{f:Nat}{g:List Sta}{c:Lds}(h:AM B W b d f g c)(k:Below W.heap.size W a):AM B a b d f g c :=
 h.kept (F:=fun _=>False) (zm k) ⟨id,fun _ _ h=>h,fun _ _ h=>h,fun _ _ h=>h⟩
theorem AM.c0{B:Nat}{W:World}{a:Nat}{b:Option Addr}{c:Nat}{d:List Sta}{f:Lds}(h:AM B W a b c d f):W.cell? ⟨a,0,none⟩=some (.slice b d.length c):=by rw[qe h.box];rfl
theorem AM.at{B:Nat}{W:World}{f:Nat}{c:Option Addr}{l:Nat}{d:List Sta}{k:Lds}(h:AM B W f c l d k){i:Nat}{s:Sta}(a:d[i]?=some s):
  ∃g,c=some ⟨g,0,none⟩/\W.cell? ⟨g,i * 3,none⟩=some (.slice s.ka s.K.length s.kc)/\W.cell? ⟨g,i * 3+1,none⟩=some (.slice s.ia s.L.length s.ic)/\W.cell? ⟨g,i * 3+2,none⟩=some (.map (some s.mb)):=by
 have p:=(List.getElem?_eq_some_iff.1 a).1;obtain⟨m,j,e,n,o,b⟩:=zo h.own
 injection e with e1 e2 e3
 subst e1
 rcases b with ⟨-,b,-⟩ | ⟨g,rfl⟩
 ·omega
 ·refine⟨g,rfl,?_,?_,?_⟩
  ·rw[show i * 3=i * 3+0 from rfl,h.own.cellAt (i * 3+0) (by omega),qhb a 0 (by omega)];rfl
  ·rw[h.own.cellAt (i * 3+1) (by omega),qhb a 1 (by omega)];rfl
  ·rw[h.own.cellAt (i * 3+2) (by omega),qhb a 2 (by omega)];rfl
theorem qm9(s:Sta):∀u∈sta3 s,u.oneCell'=true:=fun u a=>by
 simp only[sta3,List.mem_cons,List.not_mem_nil,or_false]at a
 rcases a with rfl | rfl | rfl <;> rfl
theorem qll{P:Program}(w:World)(t C e:TypeId)(i:TypeInfo)(z:Value)(size f:Nat)(G:P.underlying t=some (.slice e))(D:P.info? e=some i)(K:i.zero=some z)(q:i.size=size)(x:i.bytes=f)(I:z.cells.size=size)(F:0<size)(r n c0:Nat)(xs:List Value)(l:w.ownsRow 0 e size (.slice (some ⟨r,0,none⟩) n c0) n xs)(a:Addr)(m c:Nat)(b:List Value)(A:b.length=m * size)(h:∀j u,b[j]?=some u->w.cell? (a.add j)=some u)(J:∀u∈b,u.oneCell'=true)(v:n+m<=maxLen)(k:(n+m) * f<=140737488355328){v':Value}{L:World}(E:(Builtin.append_ #[t,t] C #[.slice (some ⟨r,0,none⟩) n c0,.slice (some a) m c]).run P w=.ok v' L):
  ∀(j:Nat) (u:Value),xs[j]?=some u->L.cell? ⟨r,j,none⟩=some u:=by
 intro j u H
 have B:n+m<=9223372036854775807:=by simp only[maxLen]at v;omega
 obtain⟨O,w1,d,M,-,-⟩:=run_append_own (P:=P) w 0 t C e i z size f G D K q x I F _ n xs l a m c b A h J v k (Nat.zero_le _);rw[E]at d
 injection d with e1 e2
 subst e1 e2
 rcases l.2 with ⟨hv,-⟩ | ⟨g,cap,cur,hv,hbg,hg,hnc,hcm,hcs,htake⟩
 ·cases hv
 ·injection hv with e1 e2 e3
  injection e1 with e1
  injection e1 with e1
  subst e1 e3;subst q x;have N:j<xs.length:=(List.getElem?_eq_some_iff.1 H).1
  by_cases p:n+m<=c0
  ·have y:n * i.size+b.length<=cur.size:=by rw[A,hcs,<-Nat.add_mul];exact Nat.mul_le_mul_right _ p
   have d:=run_append_room (P:=P) w t C e i G D r n c0 cur hg a m c b A h J p y;rw[E]at d
   injection d with e1 e2
   subst e1;have s:=M.cells (g:=r) rfl j u (by rw[List.getElem?_append_left N];exact H)
   rw[Addr.add_lit,Nat.zero_add]at s;exact s
  ·have o:=l.cells (g:=r) rfl;have d:=run_append_grow (P:=P) w t C e i z G D K ⟨r,0,none⟩ n c0 xs l.1 o a m c b A h (by omega) (by omega) (growslice_fits (by omega) k);rw[E]at d
   injection d with e1 e2
   subst e2;have s:=o j u H;rw[Addr.add_lit,Nat.zero_add]at s;exact qt (w:=w.drew) (qb _ _) s
theorem AM.push{B:Nat}{V:World}{d:Nat}{r:Option Addr}{F:Nat}{a:List Sta}{Z:Lds}(h:AM B V d r F a Z)(hn:a.length<100000)(s:Sta)(hk:V.ownsRow B 54 2 (.slice s.ka s.K.length s.kc) s.K.length (itC s.K))(A:V.ownsRow B 54 2 (.slice s.ia s.L.length s.ic) s.L.length (itC s.L))(u:MpR V s.mb zI [] (fun _=>zI))(R:B<=s.mb)(D:∀s'∈a,s'.mb≠s.mb)(Q:Z a.length=ld0):
  ∃g c o,(Builtin.append_ #[68,68] 68 #[.slice r a.length F,.slice (some ⟨V.heap.size,0,none⟩) 1 1]).run Tryz.prog (V.alloc (.cells #[.slice s.ka s.K.length s.kc,.slice s.ia s.L.length s.ic,.map (some s.mb)] 74))=.ok (.slice (some ⟨g,0,none⟩) (a.length+1) c) o /\
   o.cell? ⟨d,0,none⟩=some (.slice r a.length F)/\o.frozen? ⟨d,0,none⟩=false/\(o.setCell ⟨d,0,none⟩ (.slice (some ⟨g,0,none⟩) (a.length+1) c)).cell? ⟨d,0,none⟩=some (.slice (some ⟨g,0,none⟩) (a.length+1) c) /\
   AM B (o.setCell ⟨d,0,none⟩ (.slice (some ⟨g,0,none⟩) (a.length+1) c)) d (some ⟨g,0,none⟩) c (a++[s]) Z/\Kept (fun b=>b=d\/blk r=some b) V (o.setCell ⟨d,0,none⟩ (.slice (some ⟨g,0,none⟩) (a.length+1) c)) /\
   ∀(i:Nat) (t:Sta) (H:Nat),a[i]?=some t->r=some ⟨H,0,none⟩->(o.setCell ⟨d,0,none⟩ (.slice (some ⟨g,0,none⟩) (a.length+1) c)).cell? ⟨H,i * 3+2,none⟩=some (.map (some t.mb)):=by
 obtain⟨g,c,o,y,ho,O,hg⟩:=xy (us:=sta3 s) u68 i74 rfl (by decide) (by decide) rfl (qm9 s) h.own h.hB hn;have k0:=(((Kept.refl _ V).alloc _).trans O (fun k _ e=>ze e)).weaken (G:=fun b=>blk r=some b) (fun k e=>e)
 have M:¬blk r=some d:=fun e=>qu (qw h.own e).2.2 ⟨_,h.box⟩ (by decide) rfl
 have q:o.heap[d]?=some (.cells #[.slice r a.length F] 70 (0,0)):=by rw[k0.block d (Array.getElem?_eq_some_iff.1 h.box).1 M];exact h.box
 have v:(o.setCell ⟨d,0,none⟩ (.slice (some ⟨g,0,none⟩) (a.length+1) c)).heap[d]?=some (.cells #[.slice (some ⟨g,0,none⟩) (a.length+1) c] 70 (0,0)):=by
  rw[setCell_eq_setRow o d 0 _ 70 (0,0) _ q];exact setRow_heap _ _ _ _ 70 _ q
 have z:g≠d:=fun e=>qu (za ho (i:=g) rfl) ⟨_,q⟩ (by decide) e
 have I:Kept (fun b=>b=d\/blk r=some b) V (o.setCell ⟨d,0,none⟩ (.slice (some ⟨g,0,none⟩) (a.length+1) c)):=Kept.setCell (k0.weaken (fun k e=>.inr e)) _ _ (fun _=>.inl rfl)
 have a0:∀k,Loc V k 54->¬(k=d\/blk r=some k):=fun k hl e=>by
  rcases e with e | e
  ·exact qu hl ⟨_,h.box⟩ (by decide) e
  ·exact qu hl (qw h.own e).2.2 (by decide) rfl
 have a1:∀{m:Nat} {z0:Value} {dom:List Nat} {f:Nat->Value},MpR V m z0 dom f->¬(m=d\/blk r=some m):=fun u e=>by
  rcases e with e | e
  ·exact u.ne ⟨_,h.box⟩ e.symm
  ·exact u.ne (qw h.own e).2.2 rfl
 have row:∀{ao:Option Addr} {n cap:Nat} {cs:List Value},V.ownsRow B 54 2 (.slice ao n cap) n cs->(o.setCell ⟨d,0,none⟩ (.slice (some ⟨g,0,none⟩) (a.length+1) c)).ownsRow B 54 2 (.slice ao n cap) n cs:=fun y =>
  qh y (fun j J=>I.block j (qw y (ze J)).2.1 (a0 j (qw y (ze J)).2.2))
 have E:∀{m:Nat} {z0:Value} {dom:List Nat} {f:Nat->Value},MpR V m z0 dom f->MpR (o.setCell ⟨d,0,none⟩ (.slice (some ⟨g,0,none⟩) (a.length+1) c)) m z0 dom f:=fun u=>u.keep (I.block _ u.lt (a1 u))
 have p:∀{i:Nat} {t:Sta},(a++[s])[i]?=some t->a[i]?=some t\/(i=a.length/\t=s):=fun {i t} l=>by
  rcases Nat.lt_or_ge i a.length with A | A
  ·rw[List.getElem?_append_left A]at l;exact .inl l
  ·rw[List.getElem?_append_right A]at l;have h1:=(List.getElem?_eq_some_iff.1 l).1;simp at h1
   have e:i=a.length:=by omega
   subst e;rw[Nat.sub_self]at l;simp at l;exact .inr ⟨rfl,l.symm⟩
 refine⟨g,c,o,y,by rw[qe q];rfl,qj q 0,by rw[qe v];rfl,⟨?_,h.nb,Nat.le_trans h.hB I.size,?_,fun i t l=>?_,fun i t l=>?_,fun i t l=>?_,fun i j t t' C l T=>?_⟩,I,fun i t H l S=>?_⟩
 ·rw[List.length_append];exact v
 ·rw[qr6,List.length_append];exact qh ho (fun j J=>by cases J;exact Below.heap_setCell _ _ _ _ z)
 ·rcases p l with e | ⟨-,rfl⟩
  ·exact row (h.ker i t e)
  ·exact row hk
 ·rcases p l with e | ⟨-,rfl⟩
  ·exact row (h.itm i t e)
  ·exact row A
 ·rcases p l with e | ⟨rfl,rfl⟩
  ·exact⟨E (h.mpb i t e).1,(h.mpb i t e).2⟩
  ·rw[Q];exact⟨E u,R⟩
 ·rcases p l with e | ⟨rfl,rfl⟩ <;> rcases p T with e' | ⟨rfl,rfl⟩
  ·exact h.mdi i j t t' C e e'
  ·exact D t (List.mem_of_getElem? e)
  ·exact fun e2=>D t' (List.mem_of_getElem? e') e2.symm
  ·exact absurd rfl C
 ·subst S;obtain⟨i0,N,U,X,Y⟩:=info_parts i74
  have hc:=qll (P:=Tryz.prog) (V.alloc (.cells (sta3 s).toArray 74)) 68 68 74 i0 _ 3 56 u68 N U X Y rfl (by decide) H a.length F (stC a) (zc (zl h.own (qb _ _)) (Nat.zero_le _)) ⟨V.heap.size,0,none⟩ 1 1 (sta3 s) rfl (fun j x hx=>by
   rw[Addr.add_lit,Nat.zero_add,World.cell?_alloc_mark,<-hx]
   exact List.getElem?_toArray (xs:=sta3 s) (i:=j)) (qm9 s) (by unfold maxLen;omega) (by omega) y (i * 3+2) (.map (some t.mb)) (by rw[qhb l 2 (by omega)];rfl)
  exact zg hc (fun e=>qu (za h.own (i:=H) rfl) ⟨_,h.box⟩ (by decide) e)
theorem AM.lead{B:Nat}{V:World}{f:Nat}{u:Option Addr}{x:Nat}{p:List Sta}{d:Lds}(h:AM B V f u x p d){i:Nat}{s:Sta}(o:p[i]?=some s){z:Nat}(D:z<=1000)(hd:(d i).1.length<=1000)(v:Value):
  ∃b,(Instr.mapUpdate 72 (.map (some s.mb)) (.int .i64 (z:Int)) v).run Tryz.prog V=.ok () b/\AM B b f u x p (upd d i (domI (d i).1 z,fun y=>if y=z then v else (d i).2 y))/\Kept (fun k=>k=s.mb) V b:=by
 obtain⟨r,l⟩:=h.mpb i s o;obtain⟨b,C,g,c⟩:=r.store u72 z D hd v
 have ne:∀{k T:Nat},Loc V k T->¬k=s.mb:=fun A e=>r.ne A e
 have row:∀{T k' n cap:Nat} {ao:Option Addr} {cs:List Value},V.ownsRow B T k' (.slice ao n cap) n cs->b.ownsRow B T k' (.slice ao n cap) n cs:=fun m =>
  qh m (fun j q=>c.block j (qw m (ze q)).2.1 (ne (qw m (ze q)).2.2))
 refine⟨b,C,⟨?_,h.nb,Nat.le_trans h.hB c.size,row h.own,fun j t a=>row (h.ker j t a),fun j t a=>row (h.itm j t a),fun j t a=>?_,h.mdi⟩,c⟩
 ·rw[c.block f (Array.getElem?_eq_some_iff.1 h.box).1 (ne ⟨_,h.box⟩)];exact h.box
 ·by_cases e:j=i
  ·subst e;rw[o]at a
   cases a
   rw[x9];exact⟨g,l⟩
  ·rw[kz _ _ e];have:=h.mpb j t a;exact⟨this.1.keep (c.block t.mb this.1.lt (h.mdi j i t s e a o)),this.2⟩
theorem GA.kept{W b:World}{F:Nat->Prop}{B a f:Nat}{i:List (Option Addr × Nat)}{h:SHd}{S:Sp}{n:Nat}{l:List (List Nat)}(g:GA W B a f i h S n l)(k:Kept F W b)(c:∀j T,Loc W j T->T=94\/T=28\/T=3->¬F j)(d:IsSp b h S):GA b B a f i h S n l :=
 ⟨by rw[k.block a (Array.getElem?_eq_some_iff.1 g.box).1 (c a 94 ⟨_,g.box⟩ (.inl rfl))];exact g.box,g.new,g.len,g.grd.kept k (c f 28 g.grd.loc.2.2 (.inr (.inl rfl))) (fun j m=>c j 3 (g.grd.lt m).2.2 (.inr (.inr rfl))),d⟩
theorem jl{c:Array Oper}{o:Oper}{a:Act}{w:World}{K:Act->World->Prop}{Q:Exit->Act->World->Prop}{E:Prop}{α:Type}(j:o.guard=none)(f:FuncId)(args:Array Value)(v:α->Value)(P:α->World->Prop)(b:(execOp a.eval o).run Tryz.prog w=.ok (.enter f args) w)(i:Calls Tryz.prog f args w fun e d=>∃x,e=.returned (v x)/\P x d)(h:∀x d,P x d->K (a.put o.dst (v x)) d):
  if Region.wanted o (yielded c a.tmps)=true then Oper.wp Tryz.prog o a w K Q else E:=by
 have m:Region.wanted o (yielded c a.tmps)=true:=by simp[Region.wanted,j]
 rw[if_pos m];unfold Oper.wp;rw[b,Oper.upon_enter]
 refine i.mono fun e g k=>?_
 obtain⟨x,rfl,l⟩:=k;exact h x g l
structure FN (B:Nat) (W W':World) (ab:Nat) (sa:Option Addr) (ss:List Sta) (ld:Lds) (S:Sp) (k:List It) (sa':Option Addr) (sc':Nat) (s:Sta):Prop where
 am:AM B W' ab sa' sc' (ss++[s]) ld
 hK:s.K=k
 hL:vq S k s.L
 mb:W.heap.size<=s.mb
 kp:Kept (fun b=>b=ab\/blk sa=some b) W W'
 od:∀(i:Nat) (t:Sta) (sg:Nat),ss[i]?=some t->sa=some ⟨sg,0,none⟩->W'.cell? ⟨sg,i * 3+2,none⟩=some (.map (some t.mb))
theorem qb1{B:Nat}{W V:World}{d:Nat}{j:Option Addr}{A a:Nat}{l:List Sta}{z:Lds}{S:Sp}{k L:List It}{v t:Option Addr}{y x m u i:Nat}(h:AM B W d j A l z)(r:l.length=a)(n:Below W.heap.size W V)(T:a<=1000)(D:W.ownsRow B 54 2 (.slice v y x) y (itC k))(O:vq S k L)(C:V.ownsRow B 54 2 (.slice t m u) m (itC L))(P:MpR V i zI [] (fun _=>zI))(f:W.heap.size<=i)(o:z l.length=ld0):
  ∃g c b,(Builtin.append_ #[68,68] 68 #[.slice j a A,.slice (some ⟨V.heap.size,0,none⟩) 1 1]).run Tryz.prog (V.alloc (.cells #[.slice v y x,.slice t m u,.map (some i)] 74))=.ok (.slice (some ⟨g,0,none⟩) (a+1) c) b /\
   b.cell? ⟨d,0,none⟩=some (.slice j a A)/\b.frozen? ⟨d,0,none⟩=false/\(b.setCell ⟨d,0,none⟩ (.slice (some ⟨g,0,none⟩) (a+1) c)).cell? ⟨d,0,none⟩=some (.slice (some ⟨g,0,none⟩) (a+1) c) /\
   Hid (∃s,FN B W (b.setCell ⟨d,0,none⟩ (.slice (some ⟨g,0,none⟩) (a+1) c)) d j l z S k (some ⟨g,0,none⟩) c s):=by
 have M:=yz (j2 D);have N:=yz (j2 C);subst M N r
 obtain⟨g,c,b,E,F,G,H,I,J,K⟩:=(h.below n).push (by omega) ⟨v,x,t,u,i,k,L⟩ (zl D n) C P (Nat.le_trans h.hB f) (fun R p e=>by
  obtain⟨q,Q⟩:=List.mem_iff_getElem?.1 p;have:=(h.mpb q R Q).1.lt;simp only at e
  omega) o
 exact⟨g,c,b,E,F,G,H,_,I,rfl,O,f,(zm n).trans J (fun _ _ e=>e),K⟩
theorem qoe(W:World)(B E:Nat)(sa:Option Addr)(sc:Nat)(P:List Sta)(ld:Lds)(h:AM B W E sa sc P ld)(Bg gb rb:Nat)(vs:List (Option Addr × Nat))(hd:SHd)(S:Sp)(n:Nat)(hs:NSp S n)(g:GA W Bg gb rb vs hd S n (rwt S n S.rs.length))(k:List It)(C:Option Addr)(u D:Nat)(hk:W.ownsRow B 54 2 (.slice C u D) u (itC k))(a0:KerP S k)(b1:0<u)(hn:P.length<=1000)(a5:ld P.length=ld0)(a8:∀s∈P,KerP S s.K):
  Calls Tryz.prog 34 #[.pointer (some ⟨E,0,none⟩),.pointer (some ⟨gb,0,none⟩),.slice C u D] W fun e W'=>(∃j:Nat,e=.returned (.int .i64 (j:Int))/\(∃s,P[j]?=some s/\s.K=k)/\(∀q s,q<j->P[q]?=some s->s.K≠k)/\Below W.heap.size W W') \/
   (e=.returned (.int .i64 (P.length:Int))/\(∀s∈P,s.K≠k)/\∃b7 b8 s,FN B W W' E sa P ld S k b7 b8 s):=by
 have z:=hid5 h g hk a0 hs;have a9:=hid (yz (j2 hk));have X:=hid a5;have b0:=hid a8;have c0:=h.c0;have b5:=zq h.own
 have b2:u<=840:=by
  rw[<-a9.out];exact qe3 a0.so a0.ok hs.nr hs.ln
 obtain⟨sn,G⟩:∃sn,Hid (P.length=sn):=⟨_,rfl⟩
 rw[G.out]at c0 hn b5 ⊢;clear h g hk a0 hs a5 a8;go_enter Tryz.func34,Tryz.ntmps34;go_wp2_with fail;clear c0
 go_loopg [14] sn (fun kx s14 wr=>∃i:Nat,s14=.int .i64 (i:Int)/\i<=sn/\sn - i<=kx/\Hid (Below W.heap.size W wr/\∀q s,q<i->P[q]?=some s->s.K≠k))
 case atStart=>exact⟨0,rfl,Nat.zero_le _,by omega,(⟨Below.refl _ _,fun q s h=>absurd h (Nat.not_lt_zero _)⟩:Below W.heap.size W W/\∀q s,q<0->P[q]?=some s->s.K≠k)⟩
 case round =>
  obtain⟨i,rfl,hi,hg,J⟩:=hrel
  by_cases a6:i<sn
  ·have a7:(i:Int)<(sn:Int):=by omega
   obtain⟨s,hs⟩:∃s,P[i]?=some s:=⟨P[i]'(by rw[G.out];exact a6),List.getElem?_eq_getElem _⟩
   have hA:=z.out.1.below J.out.1;obtain⟨sg,b4,d0,d1,d2⟩:=hA.at hs;subst b4;have hv:Below wr.heap.size wr (wr.alloc (.cells #[.slice s.ka s.K.length s.kc,.slice s.ia s.L.length s.ic,.map (some s.mb)] 74)):=qb _ _;have a3:(wr.alloc (.cells #[.slice s.ka s.K.length s.kc,.slice s.ia s.L.length s.ic,.map (some s.mb)] 74)).heap[wr.heap.size]?=some (.cells #[.slice s.ka s.K.length s.kc,.slice s.ia s.L.length s.ic,.map (some s.mb)] 74 (0,0)):=heap_alloc_new _ _;have a4:=j2 (zl (hA.ker i s hs) hv);have H1:=hid2 (qd J.out.1 hv) a3
   have b3:s.K.length<=100000:=by
    have h1:=b0.out s (List.mem_of_getElem? hs);have:=qe3 h1.so h1.ok z.out.2.2.2.2.nr z.out.2.2.2.2.ln;omega
   obtain⟨r,hr⟩:=zv (s.K=k);have HE:=hid (qn9 s.K k s.ka s.K.length s.kc C u D _ a4 ((j2 z.out.2.2.1).below H1.out.1) b3 r hr);have HI:=hid3 hs hr J.out.2;clear J hA hv a3 a4 hs hr
   go_upto_region 4 with fail
   clear d0 d1 d2;generalize wr.alloc (.cells #[.slice s.ka s.K.length s.kc,.slice s.ia s.L.length s.ic,.map (some s.mb)] 74)=H at H1 HE ⊢;generalize wr.heap.size=tb at H1 ⊢
   have t0:H.cell? ⟨tb,0,none⟩=some (.slice s.ka s.K.length s.kc):=by rw[qe H1.out.2];rfl
   go_wp2_with fail;refine HE.out.mono ?_;rintro e V ⟨rfl,a2⟩;have H2:=hid (qd H1.out.1 a2);clear a2 HE H1 t0
   cases r
   ·have Q:Hid (Below W.heap.size W V/\∀q s,q<i+1->P[q]?=some s->s.K≠k):=⟨H2.out,fun q t hq ht=>by
     rcases Nat.lt_or_ge q i with e | e
     ·exact HI.out.2.2 q t e ht
     ·have e:q=i:=by omega
      subst e;rw[HI.out.1]at ht
      cases ht
      exact fun e=>by have:=HI.out.2.1.2 e;cases this⟩
    clear HI H2;go_wp2_with fail;go_roundg (sn - (i+1))
    case measure=>omega
    case rel=>exact⟨i+1,by simp,a6,Nat.le_refl _,Q⟩
   ·have Q:Hid ((∃s,P[i]?=some s/\s.K=k)/\(∀q s,q<i->P[q]?=some s->s.K≠k)/\Below W.heap.size W V):=⟨⟨s,HI.out.1,HI.out.2.1.1 rfl⟩,HI.out.2.2,H2.out⟩
    clear HI H2;go_wp2_with fail;go_ret;exact .inl ⟨i,rfl,Q.out⟩
  ·have a7:¬(i:Int)<(sn:Int):=by omega
   have HN:Hid (∀s∈P,s.K≠k):=fun s b6=>by
    obtain⟨q,hq⟩:=List.mem_iff_getElem?.1 b6;exact J.out.2 q s (by have:=(List.getElem?_eq_some_iff.1 hq).1;rw[G.out]at this;omega) hq
   have M:=hid J.out.1;clear J;have A:=z.out.1.below M.out;have R:=A.c0;rw[G.out]at R
   have Y:Hid (∀V,Below wr.heap.size wr V->Calls Tryz.prog 47 #[.pointer (some ⟨gb,0,none⟩),.slice C u D] V fun e w'=>∃x:Nat × Nat × Nat × List It,e=.returned (.slice (some ⟨x.1,0,none⟩) x.2.2.1 x.2.1)/\vq S k x.2.2.2/\w'.ownsRow V.heap.size 54 2 (.slice (some ⟨x.1,0,none⟩) x.2.2.1 x.2.1) x.2.2.1 (itC x.2.2.2)/\Below V.heap.size V w'):=fun V Z=>by
    have a1:=qd M.out Z;refine(qjl V Bg gb rb vs hd S n z.out.2.2.2.2 (z.out.2.1.below a1) k C u D z.out.2.2.2.1 ((j2 z.out.2.2.1).below a1) b1).mono ?_;rintro e w' ⟨N,O,m,L,rfl,-,h1,h2,h3⟩;exact⟨(N,O,m,L),rfl,h1,h2,h3⟩
   have b9:=hid A;clear A;have c3:∀V:World,(Instr.makeMap 72 none).run Tryz.prog V=.ok (.map (some V.heap.size)) (V.alloc (.map #[] 0)):=run_makeMap 72
   go_upto_region 7 with fail
   refine wp_region_held_drew (S:=fun _=>True) (by kernel_rfl) trivial (fun a=>?_);refine wpAnyH_take (i:=0) (v:=.pointer (some ⟨E,0,none⟩)) rfl (by kernel_rfl) (by kernel_rfl) (by kernel_rfl) (fun _ _ _ h=>h) (Or.inl ⟨by rfl,fun y d=>?_⟩) a ?_
   ·(obtain -:=d;go_simp)
   simp only[Act.put];refine wpAnyH_take (i:=1) (v:=.pointer (some ⟨E,0,none⟩)) rfl (by kernel_rfl) (by kernel_rfl) (by kernel_rfl) (fun _ _ _ h=>h) (Or.inl ⟨by rfl,fun y d=>?_⟩) a ?_
   ·(obtain -:=d;go_simp)
   simp only[Act.put];refine wpAnyH_take (i:=2) (v:=.pointer (some ⟨E,0,none⟩)) rfl (by kernel_rfl) (by kernel_rfl) (by kernel_rfl) (fun _ _ _ h=>h) (Or.inl ⟨by rfl,fun y d=>?_⟩) a ?_
   ·(obtain -:=d;go_simp)
   simp only[Act.put];refine wpAnyH_take (i:=3) (v:=.pointer (some ⟨E,0,none⟩)) rfl (by kernel_rfl) (by kernel_rfl) (by kernel_rfl) (fun _ _ _ h=>h) (Or.inl ⟨by rfl,fun y d=>?_⟩) a ?_
   ·(obtain -:=d;go_simp)
   simp only[Act.put];refine wpAnyH_take (i:=5) (v:=.slice C u D) rfl (by kernel_rfl) (by kernel_rfl) (by kernel_rfl) (fun _ _ _ h=>h) (Or.inl ⟨by rfl,fun y d=>?_⟩) a ?_
   ·(obtain -:=d;go_simp)
   simp only[Act.put];refine wpAnyH_take (i:=6) (v:=.pointer (some ⟨gb,0,none⟩)) rfl (by kernel_rfl) (by kernel_rfl) (by kernel_rfl) (fun _ _ _ h=>h) (Or.inl ⟨by rfl,fun y d=>?_⟩) a ?_
   ·(obtain -:=d;go_simp)
   simp only[Act.put];refine wpAnyH_take (i:=7) (v:=.slice C u D) rfl (by kernel_rfl) (by kernel_rfl) (by kernel_rfl) (fun _ _ _ h=>h) (Or.inl ⟨by rfl,fun y d=>?_⟩) a ?_
   ·(obtain -:=d;go_simp)
   simp only[Act.put];refine wpAnyH_ready (rs:=[4,8,9]) (by kernel_rfl) (by simp) ?_;refine AllReadyH.cons rfl (fun K b=>?_) (AllReadyH.cons rfl (fun K b=>?_) (AllReadyH.cons rfl (fun K b=>?_) AllReadyH.nil))
   ·go_simp
    refine b.out _ _ trivial (fun a=>?_);clear b K;refine wpAnyH_ready (rs:=[8,9]) (by kernel_rfl) (by simp) ?_;refine AllReadyH.cons rfl (fun K b=>?_) (AllReadyH.cons rfl (fun K b=>?_) AllReadyH.nil)
    ·refine jl rfl 47 #[.pointer (some ⟨gb,0,none⟩),.slice C u D] (fun x:Nat × Nat × Nat × List It=>.slice (some ⟨x.1,0,none⟩) x.2.2.1 x.2.1) _ (by simp[Act.eval,go_sem]) (Y.out wr.drew (qo wr)) (fun x H Z=>?_);obtain⟨N,O,m,L⟩:=x;obtain⟨I,l,p⟩:=Z;simp only at I l;have f:Below wr.heap.size wr H:=qd (qo wr) p;have F:=qt f R;refine b.out _ _ trivial (fun a=>?_);clear b K;simp only[Act.put];refine wpAnyH_ready (rs:=[9]) (by kernel_rfl) (by simp) ?_;refine AllReadyH.cons rfl (fun K b=>?_) AllReadyH.nil;have T:=qp F (.map #[] 0)
     go_simp
     refine b.out _ _ trivial (fun a=>?_);clear b K;obtain⟨g,c,W',o,d8,f8,s8,Q⟩:=qb1 z.out.1 G.out (qd M.out (qd f (qb _ (.map #[] 0)))) hn z.out.2.2.1 I (zc (zl l (qb _ (.map #[] 0))) (Nat.le_trans z.out.1.hB M.out.size)) (qcf H zI) (Nat.le_trans M.out.size f.size) X.out;clear I l p f;refine wpAnyH_take (i:=10) (v:=.agg #[.slice C u D,.slice (some ⟨N,0,none⟩) m O,.map (some H.heap.size)]) rfl (by kernel_rfl) (by kernel_rfl) (by kernel_rfl) (fun _ _ _ h=>h) (Or.inl ⟨by rfl,fun y d=>?_⟩) a ?_
     ·(obtain -:=d;go_simp)
     simp only[Act.put];refine wpAnyH_ready (rs:=[11]) (by kernel_rfl) (by simp) ?_;refine AllReadyH.cons rfl (fun K b=>?_) AllReadyH.nil;have U:=qp T (.cells #[.slice C u D,.slice (some ⟨N,0,none⟩) m O,.map (some H.heap.size)] 74)
     go_simp
     refine b.out _ _ trivial (fun a=>?_);clear b K;refine wpAnyH_ready (rs:=[12]) (by kernel_rfl) (by simp) ?_;refine AllReadyH.cons rfl (fun K b=>?_) AllReadyH.nil;refine zb rfl (.tmp 29) (.tmp 36) rfl rfl (by simp[Act.eval]) (by simp[Act.eval]) o (b.out _ _ trivial (fun a=>?_));simp only[Act.put];clear b K;refine wpAnyH_take (i:=13) (v:=.pointer (some ⟨E,0,none⟩)) rfl (by kernel_rfl) (by kernel_rfl) (by kernel_rfl) (fun _ _ _ h=>h) (Or.inl ⟨by rfl,fun y d=>?_⟩) a ?_
     ·(obtain -:=d;go_simp)
     simp only[Act.put];refine wpAnyH_take (i:=14) (v:=.pointer (some ⟨E,0,none⟩)) rfl (by kernel_rfl) (by kernel_rfl) (by kernel_rfl) (fun _ _ _ h=>h) (Or.inl ⟨by rfl,fun y d=>?_⟩) a ?_
     ·(obtain -:=d;go_simp)
     simp only[Act.put];refine wpAnyH_ready (rs:=[15]) (by kernel_rfl) (by simp) ?_;refine AllReadyH.cons rfl (fun K b=>?_) AllReadyH.nil
     go_simp
     refine b.out _ _ trivial (fun a=>?_);clear b K;refine wpAnyH_done (by kernel_rfl) ?_ _;go_wp2_with fail;go_ret;exact .inr ⟨rfl,HN.out,_,_,Q.out⟩
    ·have T:=qp R (.map #[] 0)
     go_simp
     refine b.out _ _ trivial (fun a=>?_);clear b K;refine wpAnyH_ready (rs:=[8]) (by kernel_rfl) (by simp) ?_;refine AllReadyH.cons rfl (fun K b=>?_) AllReadyH.nil;refine jl rfl 47 #[.pointer (some ⟨gb,0,none⟩),.slice C u D] (fun x:Nat × Nat × Nat × List It=>.slice (some ⟨x.1,0,none⟩) x.2.2.1 x.2.1) _ (by simp[Act.eval,go_sem]) (Y.out (wr.alloc (.map #[] 0)).drew (qd (qb _ _) (qo _))) (fun x H Z=>?_);obtain⟨N,O,m,L⟩:=x;obtain⟨I,l,p⟩:=Z;simp only at I l;have f:Below wr.heap.size wr H:=qd (qd (qb _ _) (qo _)) p;have F:=qt f R;refine b.out _ _ trivial (fun a=>?_);clear b K;simp only[Act.put];obtain⟨g,c,W',o,d8,f8,s8,Q⟩:=qb1 z.out.1 G.out (qd M.out f) hn z.out.2.2.1 I (zc l (Nat.le_trans z.out.1.hB (Nat.le_trans M.out.size (qb wr (.map #[] 0)).size))) ((qcf wr zI).below (qd (qo _) p)) M.out.size X.out;clear I l p f;refine wpAnyH_take (i:=10) (v:=.agg #[.slice C u D,.slice (some ⟨N,0,none⟩) m O,.map (some wr.heap.size)]) rfl (by kernel_rfl) (by kernel_rfl) (by kernel_rfl) (fun _ _ _ h=>h) (Or.inl ⟨by rfl,fun y d=>?_⟩) a ?_
     ·(obtain -:=d;go_simp)
     simp only[Act.put];refine wpAnyH_ready (rs:=[11]) (by kernel_rfl) (by simp) ?_;refine AllReadyH.cons rfl (fun K b=>?_) AllReadyH.nil;have U:=qp F (.cells #[.slice C u D,.slice (some ⟨N,0,none⟩) m O,.map (some wr.heap.size)] 74)
     go_simp
     refine b.out _ _ trivial (fun a=>?_);clear b K;refine wpAnyH_ready (rs:=[12]) (by kernel_rfl) (by simp) ?_;refine AllReadyH.cons rfl (fun K b=>?_) AllReadyH.nil;refine zb rfl (.tmp 29) (.tmp 36) rfl rfl (by simp[Act.eval]) (by simp[Act.eval]) o (b.out _ _ trivial (fun a=>?_));simp only[Act.put];clear b K;refine wpAnyH_take (i:=13) (v:=.pointer (some ⟨E,0,none⟩)) rfl (by kernel_rfl) (by kernel_rfl) (by kernel_rfl) (fun _ _ _ h=>h) (Or.inl ⟨by rfl,fun y d=>?_⟩) a ?_
     ·(obtain -:=d;go_simp)
     simp only[Act.put];refine wpAnyH_take (i:=14) (v:=.pointer (some ⟨E,0,none⟩)) rfl (by kernel_rfl) (by kernel_rfl) (by kernel_rfl) (fun _ _ _ h=>h) (Or.inl ⟨by rfl,fun y d=>?_⟩) a ?_
     ·(obtain -:=d;go_simp)
     simp only[Act.put];refine wpAnyH_ready (rs:=[15]) (by kernel_rfl) (by simp) ?_;refine AllReadyH.cons rfl (fun K b=>?_) AllReadyH.nil
     go_simp
     refine b.out _ _ trivial (fun a=>?_);clear b K;refine wpAnyH_done (by kernel_rfl) ?_ _;go_wp2_with fail;go_ret;exact .inr ⟨rfl,HN.out,_,_,Q.out⟩
   ·refine jl rfl 47 #[.pointer (some ⟨gb,0,none⟩),.slice C u D] (fun x:Nat × Nat × Nat × List It=>.slice (some ⟨x.1,0,none⟩) x.2.2.1 x.2.1) _ (by simp[Act.eval,go_sem]) (Y.out wr.drew (qo wr)) (fun x H Z=>?_);obtain⟨N,O,m,L⟩:=x;obtain⟨I,l,p⟩:=Z;simp only at I l;have f:Below wr.heap.size wr H:=qd (qo wr) p;have F:=qt f R;refine b.out _ _ trivial (fun a=>?_);clear b K;simp only[Act.put];refine wpAnyH_ready (rs:=[4,9]) (by kernel_rfl) (by simp) ?_;refine AllReadyH.cons rfl (fun K b=>?_) (AllReadyH.cons rfl (fun K b=>?_) AllReadyH.nil)
    ·go_simp
     refine b.out _ _ trivial (fun a=>?_);clear b K;refine wpAnyH_ready (rs:=[9]) (by kernel_rfl) (by simp) ?_;refine AllReadyH.cons rfl (fun K b=>?_) AllReadyH.nil;have T:=qp F (.map #[] 0)
     go_simp
     refine b.out _ _ trivial (fun a=>?_);clear b K;obtain⟨g,c,W',o,d8,f8,s8,Q⟩:=qb1 z.out.1 G.out (qd M.out (qd f (qb _ (.map #[] 0)))) hn z.out.2.2.1 I (zc (zl l (qb _ (.map #[] 0))) (Nat.le_trans z.out.1.hB M.out.size)) (qcf H zI) (Nat.le_trans M.out.size f.size) X.out;clear I l p f;refine wpAnyH_take (i:=10) (v:=.agg #[.slice C u D,.slice (some ⟨N,0,none⟩) m O,.map (some H.heap.size)]) rfl (by kernel_rfl) (by kernel_rfl) (by kernel_rfl) (fun _ _ _ h=>h) (Or.inl ⟨by rfl,fun y d=>?_⟩) a ?_
     ·(obtain -:=d;go_simp)
     simp only[Act.put];refine wpAnyH_ready (rs:=[11]) (by kernel_rfl) (by simp) ?_;refine AllReadyH.cons rfl (fun K b=>?_) AllReadyH.nil;have U:=qp T (.cells #[.slice C u D,.slice (some ⟨N,0,none⟩) m O,.map (some H.heap.size)] 74)
     go_simp
     refine b.out _ _ trivial (fun a=>?_);clear b K;refine wpAnyH_ready (rs:=[12]) (by kernel_rfl) (by simp) ?_;refine AllReadyH.cons rfl (fun K b=>?_) AllReadyH.nil;refine zb rfl (.tmp 29) (.tmp 36) rfl rfl (by simp[Act.eval]) (by simp[Act.eval]) o (b.out _ _ trivial (fun a=>?_));simp only[Act.put];clear b K;refine wpAnyH_take (i:=13) (v:=.pointer (some ⟨E,0,none⟩)) rfl (by kernel_rfl) (by kernel_rfl) (by kernel_rfl) (fun _ _ _ h=>h) (Or.inl ⟨by rfl,fun y d=>?_⟩) a ?_
     ·(obtain -:=d;go_simp)
     simp only[Act.put];refine wpAnyH_take (i:=14) (v:=.pointer (some ⟨E,0,none⟩)) rfl (by kernel_rfl) (by kernel_rfl) (by kernel_rfl) (fun _ _ _ h=>h) (Or.inl ⟨by rfl,fun y d=>?_⟩) a ?_
     ·(obtain -:=d;go_simp)
     simp only[Act.put];refine wpAnyH_ready (rs:=[15]) (by kernel_rfl) (by simp) ?_;refine AllReadyH.cons rfl (fun K b=>?_) AllReadyH.nil
     go_simp
     refine b.out _ _ trivial (fun a=>?_);clear b K;refine wpAnyH_done (by kernel_rfl) ?_ _;go_wp2_with fail;go_ret;exact .inr ⟨rfl,HN.out,_,_,Q.out⟩
    ·have T:=qp F (.map #[] 0)
     go_simp
     refine b.out _ _ trivial (fun a=>?_);clear b K;obtain⟨g,c,W',o,d8,f8,s8,Q⟩:=qb1 z.out.1 G.out (qd M.out (qd f (qb _ (.map #[] 0)))) hn z.out.2.2.1 I (zc (zl l (qb _ (.map #[] 0))) (Nat.le_trans z.out.1.hB M.out.size)) (qcf H zI) (Nat.le_trans M.out.size f.size) X.out;clear I l p f;refine wpAnyH_take (i:=10) (v:=.agg #[.slice C u D,.slice (some ⟨N,0,none⟩) m O,.map (some H.heap.size)]) rfl (by kernel_rfl) (by kernel_rfl) (by kernel_rfl) (fun _ _ _ h=>h) (Or.inl ⟨by rfl,fun y d=>?_⟩) a ?_
     ·(obtain -:=d;go_simp)
     simp only[Act.put];refine wpAnyH_ready (rs:=[4,11]) (by kernel_rfl) (by simp) ?_;refine AllReadyH.cons rfl (fun K b=>?_) (AllReadyH.cons rfl (fun K b=>?_) AllReadyH.nil)
     ·go_simp
      refine b.out _ _ trivial (fun a=>?_);clear b K;refine wpAnyH_ready (rs:=[11]) (by kernel_rfl) (by simp) ?_;refine AllReadyH.cons rfl (fun K b=>?_) AllReadyH.nil;have U:=qp T (.cells #[.slice C u D,.slice (some ⟨N,0,none⟩) m O,.map (some H.heap.size)] 74)
      go_simp
      refine b.out _ _ trivial (fun a=>?_);clear b K;refine wpAnyH_ready (rs:=[12]) (by kernel_rfl) (by simp) ?_;refine AllReadyH.cons rfl (fun K b=>?_) AllReadyH.nil;refine zb rfl (.tmp 29) (.tmp 36) rfl rfl (by simp[Act.eval]) (by simp[Act.eval]) o (b.out _ _ trivial (fun a=>?_));simp only[Act.put];clear b K;refine wpAnyH_take (i:=13) (v:=.pointer (some ⟨E,0,none⟩)) rfl (by kernel_rfl) (by kernel_rfl) (by kernel_rfl) (fun _ _ _ h=>h) (Or.inl ⟨by rfl,fun y d=>?_⟩) a ?_
      ·(obtain -:=d;go_simp)
      simp only[Act.put];refine wpAnyH_take (i:=14) (v:=.pointer (some ⟨E,0,none⟩)) rfl (by kernel_rfl) (by kernel_rfl) (by kernel_rfl) (fun _ _ _ h=>h) (Or.inl ⟨by rfl,fun y d=>?_⟩) a ?_
      ·(obtain -:=d;go_simp)
      simp only[Act.put];refine wpAnyH_ready (rs:=[15]) (by kernel_rfl) (by simp) ?_;refine AllReadyH.cons rfl (fun K b=>?_) AllReadyH.nil
      go_simp
      refine b.out _ _ trivial (fun a=>?_);clear b K;refine wpAnyH_done (by kernel_rfl) ?_ _;go_wp2_with fail;go_ret;exact .inr ⟨rfl,HN.out,_,_,Q.out⟩
     ·have U:=qp T (.cells #[.slice C u D,.slice (some ⟨N,0,none⟩) m O,.map (some H.heap.size)] 74)
      go_simp
      refine b.out _ _ trivial (fun a=>?_);clear b K;refine wpAnyH_ready (rs:=[4]) (by kernel_rfl) (by simp) ?_;refine AllReadyH.cons rfl (fun K b=>?_) AllReadyH.nil
      go_simp
      refine b.out _ _ trivial (fun a=>?_);clear b K;refine wpAnyH_ready (rs:=[12]) (by kernel_rfl) (by simp) ?_;refine AllReadyH.cons rfl (fun K b=>?_) AllReadyH.nil;refine zb rfl (.tmp 29) (.tmp 36) rfl rfl (by simp[Act.eval]) (by simp[Act.eval]) o (b.out _ _ trivial (fun a=>?_));simp only[Act.put];clear b K;refine wpAnyH_take (i:=13) (v:=.pointer (some ⟨E,0,none⟩)) rfl (by kernel_rfl) (by kernel_rfl) (by kernel_rfl) (fun _ _ _ h=>h) (Or.inl ⟨by rfl,fun y d=>?_⟩) a ?_
      ·(obtain -:=d;go_simp)
      simp only[Act.put];refine wpAnyH_take (i:=14) (v:=.pointer (some ⟨E,0,none⟩)) rfl (by kernel_rfl) (by kernel_rfl) (by kernel_rfl) (fun _ _ _ h=>h) (Or.inl ⟨by rfl,fun y d=>?_⟩) a ?_
      ·(obtain -:=d;go_simp)
      simp only[Act.put];refine wpAnyH_ready (rs:=[15]) (by kernel_rfl) (by simp) ?_;refine AllReadyH.cons rfl (fun K b=>?_) AllReadyH.nil
      go_simp
      refine b.out _ _ trivial (fun a=>?_);clear b K;refine wpAnyH_done (by kernel_rfl) ?_ _;go_wp2_with fail;go_ret;exact .inr ⟨rfl,HN.out,_,_,Q.out⟩
   ·have T:=qp R (.map #[] 0)
    go_simp
    refine b.out _ _ trivial (fun a=>?_);clear b K;refine wpAnyH_ready (rs:=[4,8]) (by kernel_rfl) (by simp) ?_;refine AllReadyH.cons rfl (fun K b=>?_) (AllReadyH.cons rfl (fun K b=>?_) AllReadyH.nil)
    ·go_simp
     refine b.out _ _ trivial (fun a=>?_);clear b K;refine wpAnyH_ready (rs:=[8]) (by kernel_rfl) (by simp) ?_;refine AllReadyH.cons rfl (fun K b=>?_) AllReadyH.nil;refine jl rfl 47 #[.pointer (some ⟨gb,0,none⟩),.slice C u D] (fun x:Nat × Nat × Nat × List It=>.slice (some ⟨x.1,0,none⟩) x.2.2.1 x.2.1) _ (by simp[Act.eval,go_sem]) (Y.out (wr.alloc (.map #[] 0)).drew (qd (qb _ _) (qo _))) (fun x H Z=>?_);obtain⟨N,O,m,L⟩:=x;obtain⟨I,l,p⟩:=Z;simp only at I l;have f:Below wr.heap.size wr H:=qd (qd (qb _ _) (qo _)) p;have F:=qt f R;refine b.out _ _ trivial (fun a=>?_);clear b K;simp only[Act.put];obtain⟨g,c,W',o,d8,f8,s8,Q⟩:=qb1 z.out.1 G.out (qd M.out f) hn z.out.2.2.1 I (zc l (Nat.le_trans z.out.1.hB (Nat.le_trans M.out.size (qb wr (.map #[] 0)).size))) ((qcf wr zI).below (qd (qo _) p)) M.out.size X.out;clear I l p f;refine wpAnyH_take (i:=10) (v:=.agg #[.slice C u D,.slice (some ⟨N,0,none⟩) m O,.map (some wr.heap.size)]) rfl (by kernel_rfl) (by kernel_rfl) (by kernel_rfl) (fun _ _ _ h=>h) (Or.inl ⟨by rfl,fun y d=>?_⟩) a ?_
     ·(obtain -:=d;go_simp)
     simp only[Act.put];refine wpAnyH_ready (rs:=[11]) (by kernel_rfl) (by simp) ?_;refine AllReadyH.cons rfl (fun K b=>?_) AllReadyH.nil;have U:=qp F (.cells #[.slice C u D,.slice (some ⟨N,0,none⟩) m O,.map (some wr.heap.size)] 74)
     go_simp
     refine b.out _ _ trivial (fun a=>?_);clear b K;refine wpAnyH_ready (rs:=[12]) (by kernel_rfl) (by simp) ?_;refine AllReadyH.cons rfl (fun K b=>?_) AllReadyH.nil;refine zb rfl (.tmp 29) (.tmp 36) rfl rfl (by simp[Act.eval]) (by simp[Act.eval]) o (b.out _ _ trivial (fun a=>?_));simp only[Act.put];clear b K;refine wpAnyH_take (i:=13) (v:=.pointer (some ⟨E,0,none⟩)) rfl (by kernel_rfl) (by kernel_rfl) (by kernel_rfl) (fun _ _ _ h=>h) (Or.inl ⟨by rfl,fun y d=>?_⟩) a ?_
     ·(obtain -:=d;go_simp)
     simp only[Act.put];refine wpAnyH_take (i:=14) (v:=.pointer (some ⟨E,0,none⟩)) rfl (by kernel_rfl) (by kernel_rfl) (by kernel_rfl) (fun _ _ _ h=>h) (Or.inl ⟨by rfl,fun y d=>?_⟩) a ?_
     ·(obtain -:=d;go_simp)
     simp only[Act.put];refine wpAnyH_ready (rs:=[15]) (by kernel_rfl) (by simp) ?_;refine AllReadyH.cons rfl (fun K b=>?_) AllReadyH.nil
     go_simp
     refine b.out _ _ trivial (fun a=>?_);clear b K;refine wpAnyH_done (by kernel_rfl) ?_ _;go_wp2_with fail;go_ret;exact .inr ⟨rfl,HN.out,_,_,Q.out⟩
    ·refine jl rfl 47 #[.pointer (some ⟨gb,0,none⟩),.slice C u D] (fun x:Nat × Nat × Nat × List It=>.slice (some ⟨x.1,0,none⟩) x.2.2.1 x.2.1) _ (by simp[Act.eval,go_sem]) (Y.out (wr.alloc (.map #[] 0)).drew (qd (qb _ _) (qo _))) (fun x H Z=>?_);obtain⟨N,O,m,L⟩:=x;obtain⟨I,l,p⟩:=Z;simp only at I l;have f:Below wr.heap.size wr H:=qd (qd (qb _ _) (qo _)) p;have F:=qt f R;refine b.out _ _ trivial (fun a=>?_);clear b K;simp only[Act.put];obtain⟨g,c,W',o,d8,f8,s8,Q⟩:=qb1 z.out.1 G.out (qd M.out f) hn z.out.2.2.1 I (zc l (Nat.le_trans z.out.1.hB (Nat.le_trans M.out.size (qb wr (.map #[] 0)).size))) ((qcf wr zI).below (qd (qo _) p)) M.out.size X.out;clear I l p f;refine wpAnyH_take (i:=10) (v:=.agg #[.slice C u D,.slice (some ⟨N,0,none⟩) m O,.map (some wr.heap.size)]) rfl (by kernel_rfl) (by kernel_rfl) (by kernel_rfl) (fun _ _ _ h=>h) (Or.inl ⟨by rfl,fun y d=>?_⟩) a ?_
     ·(obtain -:=d;go_simp)
     simp only[Act.put];refine wpAnyH_ready (rs:=[4,11]) (by kernel_rfl) (by simp) ?_;refine AllReadyH.cons rfl (fun K b=>?_) (AllReadyH.cons rfl (fun K b=>?_) AllReadyH.nil)
     ·go_simp
      refine b.out _ _ trivial (fun a=>?_);clear b K;refine wpAnyH_ready (rs:=[11]) (by kernel_rfl) (by simp) ?_;refine AllReadyH.cons rfl (fun K b=>?_) AllReadyH.nil;have U:=qp F (.cells #[.slice C u D,.slice (some ⟨N,0,none⟩) m O,.map (some wr.heap.size)] 74)
      go_simp
      refine b.out _ _ trivial (fun a=>?_);clear b K;refine wpAnyH_ready (rs:=[12]) (by kernel_rfl) (by simp) ?_;refine AllReadyH.cons rfl (fun K b=>?_) AllReadyH.nil;refine zb rfl (.tmp 29) (.tmp 36) rfl rfl (by simp[Act.eval]) (by simp[Act.eval]) o (b.out _ _ trivial (fun a=>?_));simp only[Act.put];clear b K;refine wpAnyH_take (i:=13) (v:=.pointer (some ⟨E,0,none⟩)) rfl (by kernel_rfl) (by kernel_rfl) (by kernel_rfl) (fun _ _ _ h=>h) (Or.inl ⟨by rfl,fun y d=>?_⟩) a ?_
      ·(obtain -:=d;go_simp)
      simp only[Act.put];refine wpAnyH_take (i:=14) (v:=.pointer (some ⟨E,0,none⟩)) rfl (by kernel_rfl) (by kernel_rfl) (by kernel_rfl) (fun _ _ _ h=>h) (Or.inl ⟨by rfl,fun y d=>?_⟩) a ?_
      ·(obtain -:=d;go_simp)
      simp only[Act.put];refine wpAnyH_ready (rs:=[15]) (by kernel_rfl) (by simp) ?_;refine AllReadyH.cons rfl (fun K b=>?_) AllReadyH.nil
      go_simp
      refine b.out _ _ trivial (fun a=>?_);clear b K;refine wpAnyH_done (by kernel_rfl) ?_ _;go_wp2_with fail;go_ret;exact .inr ⟨rfl,HN.out,_,_,Q.out⟩
     ·have U:=qp F (.cells #[.slice C u D,.slice (some ⟨N,0,none⟩) m O,.map (some wr.heap.size)] 74)
      go_simp
      refine b.out _ _ trivial (fun a=>?_);clear b K;refine wpAnyH_ready (rs:=[4]) (by kernel_rfl) (by simp) ?_;refine AllReadyH.cons rfl (fun K b=>?_) AllReadyH.nil
      go_simp
      refine b.out _ _ trivial (fun a=>?_);clear b K;refine wpAnyH_ready (rs:=[12]) (by kernel_rfl) (by simp) ?_;refine AllReadyH.cons rfl (fun K b=>?_) AllReadyH.nil;refine zb rfl (.tmp 29) (.tmp 36) rfl rfl (by simp[Act.eval]) (by simp[Act.eval]) o (b.out _ _ trivial (fun a=>?_));simp only[Act.put];clear b K;refine wpAnyH_take (i:=13) (v:=.pointer (some ⟨E,0,none⟩)) rfl (by kernel_rfl) (by kernel_rfl) (by kernel_rfl) (fun _ _ _ h=>h) (Or.inl ⟨by rfl,fun y d=>?_⟩) a ?_
      ·(obtain -:=d;go_simp)
      simp only[Act.put];refine wpAnyH_take (i:=14) (v:=.pointer (some ⟨E,0,none⟩)) rfl (by kernel_rfl) (by kernel_rfl) (by kernel_rfl) (fun _ _ _ h=>h) (Or.inl ⟨by rfl,fun y d=>?_⟩) a ?_
      ·(obtain -:=d;go_simp)
      simp only[Act.put];refine wpAnyH_ready (rs:=[15]) (by kernel_rfl) (by simp) ?_;refine AllReadyH.cons rfl (fun K b=>?_) AllReadyH.nil
      go_simp
      refine b.out _ _ trivial (fun a=>?_);clear b K;refine wpAnyH_done (by kernel_rfl) ?_ _;go_wp2_with fail;go_ret;exact .inr ⟨rfl,HN.out,_,_,Q.out⟩
end Go.Proofs.YtbdogaaooeoccaaGreatDoor
namespace Go.Proofs.YtbdogaaooeoccaaGreatDoor
open Go.RowKit Go.Maps Go.Sort Go.Shelf
theorem quh(m:Nat):AnyZI.SortsIn Tryz.prog qli Fence.wide m :=
 ⟨fun blk off a f W d b c=>callsIn_wide.2 (AnyM.slices_Sort_int isoS blk off a f W d b c),
   fun p a W=>callsIn_wide.2 (AnyM.slices_Sort_int_none isoS p a W)⟩
theorem qu0(a:Nat)(W:World):Calls Tryz.prog 37 #[.map (some a)] W fun e b=>e=.returned (.func (.func 51) #[] #[.pointer (some ⟨W.heap.size,0,none⟩)])/\b=W.alloc (.cells #[.map (some a)] 80):=by
 refine(callsIn_wide (n:=5)).1 ?_;exact AnyZI.keys_in keyS Fence.wide 5 trivial rfl (some a) W
def Asc (l:List Nat):Prop:=l.Pairwise (·<·)
theorem qui{f:List Int}{d:List Nat}(h:f.Perm (d.map fun x:Nat=>(x:Int)))(hd:d.Nodup):∃j:List Nat,Asc j/\j.Perm d/\j.length=f.length/\(f.mergeSort (fun x y=>decide (x<=y))).map encZ=natC j:=by
 have m:=(List.mergeSort_perm f (fun x y=>decide (x<=y))).trans h;have p:(f.mergeSort (fun x y=>decide (x<=y))).Pairwise (fun a b=>(decide (a<=b))=true):=List.pairwise_mergeSort (fun a b c q r=>by simp only[decide_eq_true_eq]at *;exact Int.le_trans q r) (fun a b=>by simp only[Bool.or_eq_true,decide_eq_true_eq];exact Int.le_total a b) f
 have o:(f.mergeSort (fun x y=>decide (x<=y))).length=f.length:=List.length_mergeSort f;generalize f.mergeSort (fun x y=>decide (x<=y))=l at m p o
 have t:(l.map Int.toNat).map (fun x:Nat=>(x:Int))=l:=by
  rw[List.map_map];refine(List.map_congr_left fun a s=>?_).trans (List.map_id l);obtain⟨x,-,rfl⟩:=List.mem_map.1 (m.mem_iff.1 s);rfl
 have i:(l.map Int.toNat).Perm d:=by
  have:=m.map Int.toNat;rw[List.map_map]at this;have e:d.map (Int.toNat ∘ fun x:Nat=>(x:Int))=d:=(List.map_congr_left fun a _=>rfl).trans (List.map_id d);rw[e]at this;exact this
 refine⟨l.map Int.toNat,?_,i,by rw[List.length_map,o],?_⟩
 ·have k:(l.map Int.toNat).Nodup:=i.nodup_iff.2 hd
  have n:(l.map Int.toNat).Pairwise (·<=·):=by
   rw[List.pairwise_map]
   refine p.imp fun {a b} g=>?_
   rw[decide_eq_true_eq]at g;omega
  exact(n.and k).imp fun {a b} g=>Nat.lt_of_le_of_ne g.1 g.2
 ·unfold natC
  conv=>lhs;rw[<-t]
  rw[List.map_map];rfl
theorem qtl(k:Nat)(W:World)(M:Value)(b:List Nat)(f:Nat->Value)(h:MpR W k M b f)(hd:b.length<=1000):
  Calls Tryz.prog 36 #[.func (.func 51) #[] #[.pointer (some ⟨W.heap.size,0,none⟩)]] (W.alloc (.cells #[.map (some k)] 80)) fun e s=>∃(z:Option Addr) (c:Nat) (d:List Nat),e=.returned (.slice z d.length c)/\Asc d/\d.Perm b/\s.ownsRow W.heap.size 3 1 (.slice z d.length c) d.length (natC d)/\Below W.heap.size W s:=by
 obtain⟨m,D,N,y,i⟩:=h.ow;have L:=i.size;have p:=y.lt;refine(callsIn_wide (n:=5)).1 ?_
 have j:SeqGives Fence.wide 2 Tryz.prog 51 #[.pointer (some ⟨W.heap.size,0,none⟩)] encZ (fun r=>r.Perm (intKeys D)) (Maps.size D) (W.alloc (.cells #[.map (some k)] 80)) :=
  AnyZI.keys_gives (ρ:=qlh) { keyS with } Fence.wide _ trivial rfl (by omega) W.heap.size k m D _ (by simp) (by simp) (by
   obtain⟨E,g,o,A,K,I⟩:=y
   exact⟨E,g,(Below.heap_alloc _ _ k p).trans o,A,K,I⟩)
 have C:=AnyZI.sorted_in sodS Fence.wide 5 trivial trivial trivial trivial rfl (by omega) (quh _) (enters_of Tryz.func50 (by kernel_rfl) rfl) 51 #[.pointer (some ⟨W.heap.size,0,none⟩)] trivial (enters_of Tryz.func51 (by kernel_rfl) rfl) _ _ (by unfold maxLen;omega) (by omega) _ j
 refine CallsIn.mono C ?_;rintro e s ⟨v,r,rfl,J,a,u,o⟩;have q:r.Perm (b.map fun x:Nat=>(x:Int)):=J.trans i.keys.symm;obtain⟨d,F,G,t,H⟩:=qui q i.nd;rw[H]at a;obtain⟨B,l,rfl,-⟩:=zo a;refine⟨B,l,d,by rw[t],F,G,by rw[t];exact zc a (by simp),((Below.refl _ W).alloc (Nat.le_refl _) _).trans (o.mono (by simp))⟩
end Go.Proofs.YtbdogaaooeoccaaGreatDoor
namespace Go.Proofs.YtbdogaaooeoccaaGreatDoor
open Go.RowKit
theorem qp2{n i j z m:Nat}(b:z<n)(a:m<n)(e:j * n+z=i * n+m):j=i/\z=m:=by
 rcases Nat.lt_trichotomy j i with h | h | h
 ·have:(j+1) * n<=i * n:=Nat.mul_le_mul_right n h;rw[Nat.add_mul,Nat.one_mul]at this;omega
 ·subst h;exact⟨rfl,by omega⟩
 ·have:(i+1) * n<=j * n:=Nat.mul_le_mul_right n h;rw[Nat.add_mul,Nat.one_mul]at this;omega
structure LdI (n:Nat) (g:List Int) (ld:Lds) (t:Nat):Prop where
 a:∀j z:Nat,z<n->j * n+z<t->∃x,g[j * n+z]?=some x/\((x=-1/\z ∉ (ld j).1)\/∃u:Nat,x=(u:Int)/\z∈(ld j).1/\(ld j).2 z=.int .i64 (u:Int))
 b:∀j z:Nat,z∈(ld j).1->z<n/\j * n+z<t
theorem LdI.zero{n i m:Nat}{g:List Int}{f:Lds}(h:LdI n g f (i * n+m))(q:m<n)(p:g.length=i * n+m):LdI n (g++[-1]) f (i * n+m+1):=by
 refine⟨fun j z c r=>?_,fun j z c=>?_⟩
 ·rcases Nat.lt_or_ge (j * n+z) (i * n+m) with e | e
  ·obtain⟨x,l,o⟩:=h.a j z c e;exact⟨x,by rw[List.getElem?_append_left (by omega)];exact l,o⟩
  ·have k:j * n+z=i * n+m:=by omega
   obtain⟨rfl,rfl⟩:=qp2 c q k;refine⟨-1,by rw[<-p,List.getElem?_append_right (Nat.le_refl _),Nat.sub_self];rfl,.inl ⟨rfl,fun d=>?_⟩⟩
   have:=(h.b j z d).2;omega
 ·have:=h.b j z c;exact⟨this.1,by omega⟩
theorem LdI.one{n i m u:Nat}{g:List Int}{f:Lds}(h:LdI n g f (i * n+m))(o:m<n)(r:g.length=i * n+m):LdI n (g++[(u:Int)]) (upd f i (domI (f i).1 m,fun y=>if y=m then .int .i64 (u:Int) else (f i).2 y)) (i * n+m+1):=by
 refine⟨fun j z c s=>?_,fun j z c=>?_⟩
 ·rcases Nat.lt_or_ge (j * n+z) (i * n+m) with e | e
  ·obtain⟨x,q,l⟩:=h.a j z c e;refine⟨x,by rw[List.getElem?_append_left (by omega)];exact q,?_⟩
   by_cases d:j=i
   ·subst d
    have k:z≠m:=by omega
    rw[x9];simp only[qa1,k,false_or,if_false];exact l
   ·rw[kz _ _ d];exact l
  ·have p:j * n+z=i * n+m:=by omega
   obtain⟨rfl,rfl⟩:=qp2 c o p;refine⟨(u:Int),by rw[<-r,List.getElem?_append_right (Nat.le_refl _),Nat.sub_self];rfl,.inr ⟨u,rfl,?_,?_⟩⟩
   ·rw[x9];exact qa1.2 (.inl rfl)
   ·rw[x9];exact if_pos rfl
 ·by_cases d:j=i
  ·subst d;rw[x9]at c
   rcases qa1.1 c with rfl | e
   ·exact⟨o,by omega⟩
   ·have:=h.b j z e;exact⟨this.1,by omega⟩
  ·rw[kz _ _ d]at c;have:=h.b j z c;exact⟨this.1,by omega⟩
structure OA (S:Sp) (n:Nat) (ss:List Sta) (ld:Lds) (g:List Int) (t:Nat):Prop where
 ha:∀C,CloF S C->au S C n t=some (ss.map (·.K),g)
 le:t<=n * ss.length
 cs:∀s∈ss,vq S s.K s.L/\KerP S s.K/\s.K≠[]
 li:LdI n g ld t
 lz:∀j,ss.length<=j->ld j=ld0
 l1:ss.length<=120
section
variable {S:Sp} {n i m:Nat} {ss:List Sta} {ld:Lds} {g:List Int} {s:Sta}
theorem OA.lg{t:Nat}(h:OA S n ss ld g t):g.length=t:=by
 obtain⟨C,a⟩:=qua S;exact(qld S C n t _ _ (h.ha C a)).eq (by rw[List.length_map];exact h.le)
theorem OA.ker(h:OA S n ss ld g (i * n+m))(a:ss[i]?=some s):(ss.map (·.K))[i]?=some s.K/\∀C,CloF S C->C s.K=s.L:=⟨by rw[List.getElem?_map,a];rfl,fun C b=>b _ _ (h.cs s (List.mem_of_getElem? a)).1⟩
theorem OA.room(c:ss[i]?=some s)(d:m<n):i * n+m+1<=n * ss.length:=by
 have a:=(List.getElem?_eq_some_iff.1 c).1;have b:(i+1) * n<=ss.length * n:=Nat.mul_le_mul_right n a;rw[Nat.add_mul,Nat.one_mul,Nat.mul_comm ss.length n]at b;omega
theorem OA.zero(h:OA S n ss ld g (i * n+m))(c:ss[i]?=some s)(a:m<n)(j:nxt S s.L m=[]):OA S n ss ld (g++[-1]) (i * n+m+1):=by
 obtain⟨d,f⟩:=h.ker c;exact⟨fun C b=>qtf (h.ha C b) d a (by rw[f C b];exact j),OA.room c a,h.cs,h.li.zero a h.lg,h.lz,h.l1⟩
theorem OA.adv(f:ss[i]?=some s):∀(d m:Nat) (g:List Int),OA S n ss ld g (i * n+m)->m+d<=n->(∀y,m<=y->y<m+d->nxt S s.L y=[])->∃a,OA S n ss ld a (i * n+(m+d))
 | 0,m,g,h,_,_=>⟨g,h⟩
 | d+1,m,g,h,hd,hk=>by
  have b:=h.zero f (by omega) (hk m (Nat.le_refl _) (by omega));obtain⟨a,c⟩:=OA.adv f d (m+1) _ (by rw[<-Nat.add_assoc];exact b) (by omega) (fun y b c=>hk y (by omega) (by omega))
  exact⟨a,by rw[show m+(d+1)=m+1+d by omega];exact c⟩
theorem OA.old(h:OA S n ss ld g (i * n+m))(d:ss[i]?=some s)(c:m<n){k:List It}(v:nxt S s.L m=k)(b:k≠[]){j:Nat}(a:∃t,ss[j]?=some t/\t.K=k)(u:∀q t,q<j->ss[q]?=some t->t.K≠k):OA S n ss (upd ld i (domI (ld i).1 m,fun y=>if y=m then .int .i64 (j:Int) else (ld i).2 y)) (g++[(j:Int)]) (i * n+m+1):=by
 obtain⟨p,r⟩:=h.ker d;have A:=(List.getElem?_eq_some_iff.1 d).1;obtain⟨t,z,l⟩:=a;refine⟨fun C o=>quc (h.ha C o) p c (by rw[r C o];exact v) b (by rw[List.getElem?_map,z];exact congrArg some l) (fun q x e=>?_),OA.room d c,h.cs,h.li.one c h.lg,fun j a=>by rw[kz _ _ (show j≠i by omega)];exact h.lz j a,h.l1⟩
 rw[List.getElem?_map]at e;obtain⟨t',f,e⟩:=Option.map_eq_some_iff.1 e;exact u q t' x f e
theorem qna{k:List It}(b:∀t∈ss,t.K≠k):∀q:Nat,(ss.map (·.K))[q]?≠some k:=fun q e=>by
 rw[List.getElem?_map]at e;obtain⟨t',a,e⟩:=Option.map_eq_some_iff.1 e;exact b t' (List.mem_of_getElem? a) e
theorem OA.new(h:OA S n ss ld g (i * n+m))(l:ss[i]?=some s)(f:m<n){k:List It}(z:nxt S s.L m=k)(a:k≠[])(d:KerP S k)(x:∀t∈ss,t.K≠k)(A:ss.length<120){p:Sta}(b:p.K=k)(o:vq S k p.L):OA S n (ss++[p]) (upd ld i (domI (ld i).1 m,fun y=>if y=m then .int .i64 (ss.length:Int) else (ld i).2 y)) (g++[(ss.length:Int)]) (i * n+m+1):=by
 obtain⟨u,v⟩:=h.ker l;have D:=(List.getElem?_eq_some_iff.1 l).1
 have q:∀C,CloF S C->_:=fun C c=>qud (h.ha C c) u f (by rw[v C c];exact z) a (qna x) (by rw[List.length_map];exact A)
 simp only[List.length_map]at q;refine⟨fun C c=>by rw[List.map_append,q C c];simp[b],?_,fun t B=>?_,h.li.one f h.lg,fun j r=>?_,by rw[List.length_append];simp;omega⟩
 ·refine Nat.le_trans (OA.room l f) (Nat.mul_le_mul_left n ?_);rw[List.length_append];omega
 ·rcases List.mem_append.1 B with e | e
  ·exact h.cs t e
  ·rw[List.mem_singleton]at e;subst e;rw[b];exact⟨o,d,a⟩
 ·rw[List.length_append]at r;simp only[List.length_singleton]at r;rw[kz _ _ (show j≠i by omega)];exact h.lz j (by omega)
theorem OA.over(h:OA S n ss ld g (i * n+m))(p:ss[i]?=some s)(o:m<n){k:List It}(j:nxt S s.L m=k)(a:k≠[])(f:∀t∈ss,t.K≠k)(l:120<=ss.length):Ovr9 S n:=by
 obtain⟨c,d⟩:=h.ker p
 exact fun C b=>⟨_,qtg (h.ha C b) c o (by rw[d C b];exact j) a (qna f) (by rw[List.length_map];exact l)⟩
end
structure FO (B:Nat) (W W':World) (ab:Nat) (sa:Option Addr) (ss:List Sta) (ld:Lds) (S:Sp) (k:List It) (j:Nat) (sa':Option Addr) (sc':Nat) (ss':List Sta):Prop where
 am:AM B W' ab sa' sc' ss' ld
 kp:Kept (fun b=>b=ab\/blk sa=some b) W W'
 pre:∀(i:Nat) (t:Sta),ss[i]?=some t->ss'[i]?=some t
 od:∀(i:Nat) (t:Sta) (sg:Nat),ss[i]?=some t->sa=some ⟨sg,0,none⟩->W'.cell? ⟨sg,i * 3+2,none⟩=some (.map (some t.mb))
 le:ss'.length<=ss.length+1
 an:(ss'=ss/\(∃s,ss[j]?=some s/\s.K=k)/\∀q s,q<j->ss[q]?=some s->s.K≠k)\/(∃s,ss'=ss++[s]/\j=ss.length/\(∀t∈ss,t.K≠k)/\s.K=k/\vq S k s.L/\W.heap.size<=s.mb)
theorem qp3(W:World)(B c:Nat)(l:Option Addr)(z:Nat)(a:List Sta)(f:Lds)(h:AM B W c l z a f)(A m D:Nat)(E:List (Option Addr × Nat))(hd:SHd)(S:Sp)(n:Nat)(J:NSp S n)(g:GA W A m D E hd S n (rwt S n S.rs.length))(k:List It)(v:Option Addr)(b y:Nat)(H:W.ownsRow B 54 2 (.slice v b y) b (itC k))(p:KerP S k)(o:0<b)(I:a.length<=1000)(q:f a.length=ld0)(u:∀s∈a,KerP S s.K):
  Calls Tryz.prog 34 #[.pointer (some ⟨c,0,none⟩),.pointer (some ⟨m,0,none⟩),.slice v b y] W fun e C=>∃x:Nat × Option Addr × Nat × List Sta,e=.returned (.int .i64 (x.1:Int))/\FO B W C c l a f S k x.1 x.2.1 x.2.2.1 x.2.2.2:=by
 refine(qoe W B c l z a f h A m D E hd S n J g k v b y H p o I q u).mono fun e C G=>?_
 rcases G with ⟨j,rfl,h1,h2,hb⟩ | ⟨rfl,h1,sa',sc',s,hf⟩
 ·refine⟨(j,l,z,a),rfl,h.below hb,zm hb,fun _ _ h=>h,fun i t M d r=>?_,Nat.le_succ _,.inl ⟨rfl,h1,h2⟩⟩;obtain⟨L,e,-,-,F⟩:=(h.below hb).at d;rw[r]at e
  injection e with e
  injection e with e
  subst e;exact F
 ·exact⟨(a.length,sa',sc',a++[s]),rfl,hf.am,hf.kp,fun i t d=>by rw[List.getElem?_append_left (List.getElem?_eq_some_iff.1 d).1];exact d,hf.od,by rw[List.length_append];exact Nat.le_refl _,.inr ⟨s,rfl,rfl,h1,hf.hK,hf.hL,hf.mb⟩⟩
theorem KM.kept{B:Nat}{wr b:World}{n c:Nat}{q:Nat->Option Addr × Nat}{l:Nat->List It}{a:List Nat}{F:Nat->Prop}(h:KM B wr n c q l a)(k:Kept F wr b)(f:¬F c)(g:∀j,Loc wr j 54->¬F j):KM B b n c q l a :=
 ⟨h.nb,Nat.le_trans h.hB k.size,h.mp.keep (k.block c h.mp.lt f),fun z=>qh (h.row z) (fun j d=>k.block j (qw (h.row z) (ze d)).2.1 (g j (qw (h.row z) (ze d)).2.2)),h.dis,h.dm,h.dl⟩
structure OI (w wr:World) (h:SHd) (S:Sp) (n gb rb:Nat) (vs:List (Option Addr × Nat)) (ab:Nat) (sa:Option Addr) (sc:Nat) (ss:List Sta) (ld:Lds) (g:List Int) (t:Nat):Prop where
 bel:Below w.heap.size w wr
 ga:GA wr w.heap.size gb rb vs h S n (rwt S n S.rs.length)
 am:AM w.heap.size wr ab sa sc ss ld
 oa:OA S n ss ld g t
theorem OI.below{w wr a:World}{h:SHd}{S:Sp}{n d i:Nat}{m:List (Option Addr × Nat)}{c:Nat}{j:Option Addr}{k:Nat}{l:List Sta}{f:Lds}{g:List Int}{t:Nat}(o:OI w wr h S n d i m c j k l f g t)(b:Below wr.heap.size wr a):OI w a h S n d i m c j k l f g t :=
 ⟨qd o.bel b,o.ga.below b,o.am.below b,o.oa⟩
structure IN (w wr:World) (h:SHd) (S:Sp) (n gb rb:Nat) (vs:List (Option Addr × Nat)) (ab:Nat) (s:Sta) (i B2 mbk:Nat) (q:Nat->Option Addr × Nat) (dom:List Nat) (B3:Nat) (va:Option Addr) (c:Nat) (keys:List Nat) (j m:Nat) (sa:Option Addr) (sc:Nat) (ss:List Sta) (ld:Lds) (g:List Int):Prop where
 oi:OI w wr h S n gb rb vs ab sa sc ss ld g (i * n+m)
 hs:ss[i]?=some s
 km:KM B2 wr n mbk q (nxt S s.L) dom
 hB2:w.heap.size<=B2
 kr:wr.ownsRow B3 3 1 (.slice va keys.length c) keys.length (natC keys)
 nm:∀t∈ss,t.mb≠mbk
 r1:∀y,m<=y->y<n->nxt S s.L y≠[]->y∈keys.drop j
 r2:∀y∈keys.drop j,m<=y/\y<n/\nxt S s.L y≠[]
 mn:m<=n
structure FL9 (w wr W':World) (S:Sp) (ab:Nat) (s:Sta) (i z:Nat) (sa:Option Addr) (ss:List Sta) (ld:Lds) (k:List It) (j:Nat) (sa':Option Addr) (sc':Nat) (ss':List Sta):Prop where
 am:AM w.heap.size W' ab sa' sc' ss' (upd ld i (domI (ld i).1 z,fun y=>if y=z then .int .i64 (j:Int) else (ld i).2 y))
 kp:Kept (fun b=>b=ab\/blk sa=some b\/b=s.mb) wr W'
 pre:ss'[i]?=some s
 le:ss'.length<=ss.length+1
 an:(ss'=ss/\(∃t,ss[j]?=some t/\t.K=k)/\∀q t,q<j->ss[q]?=some t->t.K≠k)\/(∃t,ss'=ss++[t]/\j=ss.length/\(∀t∈ss,t.K≠k)/\t.K=k/\vq S k t.L/\wr.heap.size<=t.mb)
theorem qtm{w wr V:World}{S:Sp}{p:Nat}{s:Sta}{i z:Nat}{t:Option Addr}{v:List Sta}{r:Lds}{k:List It}{j:Nat}{a:Option Addr}{d:Nat}{l:List Sta}(f:FO w.heap.size wr.drew V p t v r S k j a d l)(y:v[i]?=some s)(C:z<=1000)(hd:(r i).1.length<=1000):
  ∃o,(Instr.mapUpdate 72 (.map (some s.mb)) (.int .i64 (z:Int)) (.int .i64 (j:Int))).run Tryz.prog V=.ok () o/\Hid (FL9 w wr o S p s i z t v r k j a d l)/\Kept (fun b=>b=s.mb) V o:=by
 obtain⟨o,A,B,x⟩:=f.am.lead (f.pre i s y) C hd (.int .i64 (j:Int));refine⟨o,A,⟨B,?_,f.pre i s y,f.le,f.an⟩,x⟩
 have D:Kept (fun b=>b=p\/blk t=some b) wr V:=by
  have:=f.kp;exact⟨this.os,this.tape,this.output,this.size,this.block⟩
 exact(D.weaken (fun b e=>e.elim .inl (fun e=>.inr (.inl e)))).trans x (fun b _ e=>.inr (.inr e))
section
variable {w wr W':World} {h:SHd} {S:Sp} {n gb rb:Nat} {vs:List (Option Addr × Nat)} {ab:Nat} {s:Sta} {i B2 mbk:Nat} {q:Nat->Option Addr × Nat} {dom:List Nat} {B3:Nat} {va:Option Addr} {c:Nat} {keys:List Nat} {j m:Nat} {sa:Option Addr} {sc:Nat} {ss:List Sta} {ld:Lds} {g:List Int} {z u:Nat} {sa':Option Addr} {sc':Nat} {ss':List Sta}
theorem IN.adv(x:IN w wr h S n gb rb vs ab s i B2 mbk q dom B3 va c keys j m sa sc ss ld g)(u:Asc keys)(v:keys[j]?=some z):∃f,OA S n ss ld f (i * n+z)/\m<=z/\z<n/\nxt S s.L z≠[]:=by
 obtain⟨l,a⟩:=List.getElem?_eq_some_iff.1 v
 have b:z∈keys.drop j:=by
  rw[List.drop_eq_getElem_cons l,a];exact List.mem_cons_self
 obtain⟨o,p,r⟩:=x.r2 z b
 obtain⟨f,k⟩:=OA.adv x.hs (z - m) m g x.oi.oa (by omega) (fun y t A=>Classical.byContradiction fun e=>by
  have:=x.r1 y t (by omega) e;rw[List.drop_eq_getElem_cons l,a]at this
  rcases List.mem_cons.1 this with e | e
  ·omega
  ·have d:Asc (keys.drop j):=List.Pairwise.sublist (List.drop_sublist _ _) u;rw[List.drop_eq_getElem_cons l,a]at d;have:=(List.pairwise_cons.1 d).1 y e
   omega)
 exact⟨f,by rw[show i * n+z=i * n+(m+(z - m)) by omega];exact k,o,p,r⟩
theorem IN.last(x:IN w wr h S n gb rb vs ab s i B2 mbk q dom B3 va c keys j m sa sc ss ld g)(f:keys.length<=j):∃a,OI w wr h S n gb rb vs ab sa sc ss ld a ((i+1) * n+0):=by
 obtain⟨a,b⟩:=OA.adv x.hs (n - m) m g x.oi.oa (by have:=x.mn;omega) (fun y d k=>Classical.byContradiction fun e=>by
  have:=x.r1 y d (by have:=x.mn;omega) e
  rw[List.drop_eq_nil_of_le f]at this
  cases this)
 refine⟨a,x.oi.bel,x.oi.ga,x.oi.am,?_⟩;rw[Nat.add_mul,Nat.one_mul,Nat.add_zero,show i * n+n=i * n+(m+(n - m)) by have:=x.mn;omega]
 exact b
theorem IN.next(x:IN w wr h S n gb rb vs ab s i B2 mbk q dom B3 va c keys j m sa sc ss ld g)(C:IsSp w h S)(M:Asc keys)(Q:keys[j]?=some z){k:List It}(f:FL9 w wr W' S ab s i z sa ss ld k u sa' sc' ss'){E:List Int}(P:OA S n ss' (upd ld i (domI (ld i).1 z,fun y=>if y=z then .int .i64 (u:Int) else (ld i).2 y)) E (i * n+z+1)):IN w W' h S n gb rb vs ab s i B2 mbk q dom B3 va c keys (j+1) (z+1) sa' sc' ss' (upd ld i (domI (ld i).1 z,fun y=>if y=z then .int .i64 (u:Int) else (ld i).2 y)) E:=by
 obtain⟨N,D⟩:=List.getElem?_eq_some_iff.1 Q
 have a:keys.drop j=z :: keys.drop (j+1):=by rw[List.drop_eq_getElem_cons N,D]
 obtain⟨R,J,U⟩:=x.r2 z (by rw[a];exact List.mem_cons_self)
 have o:∀y∈keys.drop (j+1),z<y:=by
  have p:Asc (keys.drop j):=List.Pairwise.sublist (List.drop_sublist _ _) M;rw[a]at p;exact(List.pairwise_cons.1 p).1
 have A:=x.oi.am;obtain⟨B,O⟩:=A.mpb i s x.hs
 have ne:∀k T,Loc wr k T->T≠70->T≠74->¬(k=ab\/blk sa=some k\/k=s.mb):=fun k T l r F e=>by
  rcases e with e | e | e
  ·exact qu l ⟨_,A.box⟩ r e
  ·exact qu l (qw A.own e).2.2 F rfl
  ·exact B.ne l e
 have d:Below w.heap.size w W':=x.oi.bel.trans (f.kp.below x.oi.bel.size (fun k V e=>by
  rcases e with e | e | e
  ·have:=A.nb;omega
  ·have:=(qw A.own e).1;omega
  ·omega))
 refine⟨⟨d,x.oi.ga.kept f.kp (fun k T l G=>ne k T l (by rcases G with e | e | e <;> (rw[e];decide)) (by rcases G with e | e | e <;> (rw[e];decide))) (C.below d),f.am,by rw[<-Nat.add_assoc];exact P⟩,f.pre,x.km.kept f.kp ?_ (fun k l=>ne k 54 l (by decide) (by decide)),x.hB2,?_,fun t v=>?_,fun y F K L=>?_,fun y I=>?_,J⟩
 ·rintro(e | e | e)
  ·exact x.km.mp.ne ⟨_,A.box⟩ e.symm
  ·exact x.km.mp.ne (qw A.own e).2.2 rfl
  ·exact x.nm s (List.mem_of_getElem? x.hs) e.symm
 ·exact qh x.kr (fun b H=>f.kp.block b (qw x.kr (ze H)).2.1 (ne b 3 (qw x.kr (ze H)).2.2 (by decide) (by decide)))
 ·rcases f.an with ⟨e,-⟩ | ⟨t',e,-,-,-,-,r⟩
  ·rw[e]at v;exact x.nm t v
  ·rw[e]at v
   rcases List.mem_append.1 v with e | e
   ·exact x.nm t e
   ·rw[List.mem_singleton]at e;subst e;have:=x.km.mp.lt;omega
 ·have:=x.r1 y (by omega) K L;rw[a]at this
  rcases List.mem_cons.1 this with e | e
  ·omega
  ·exact e
 ·have r:=x.r2 y (by rw[a];exact List.mem_cons_of_mem _ I)
  exact⟨o y I,r.2⟩
end
theorem quj{w V:World}(a:Below w.heap.size w V):AM w.heap.size (V.alloc (.cells #[.slice none 0 0] 70)) V.heap.size none 0 [] (fun _=>ld0) :=
 ⟨heap_alloc_new _ _,a.size,Nat.le_trans a.size (qb _ _).size,World.ownsRow_nil _ _ 74 3,fun i s h=>(by cases h),fun i s h=>(by cases h),fun i s h=>(by cases h),fun i j s b _ h=>(by cases h)⟩
theorem qtn(V:World):(V.alloc (.cells #[.int .i64 0,.int .i64 0] 54)).ownsRow V.heap.size 54 2 (.slice (some ⟨V.heap.size,0,none⟩) 1 1) 1 (itC [(0,0)]) :=
 ⟨rfl,.inr ⟨V.heap.size,1,_,rfl,Nat.le_refl _,heap_alloc_new _ _,Nat.le_refl _,by unfold maxLen;omega,rfl,rfl⟩⟩
theorem GA.mono{W:World}{B b c d:Nat}{f:List (Option Addr × Nat)}{h:SHd}{S:Sp}{n:Nat}{i:List (List Nat)}(g:GA W B c d f h S n i)(a:b<=B):GA W b c d f h S n i :=
 ⟨g.box,Nat.le_trans a g.new,g.len,⟨g.grd.len,zc g.grd.bod a,fun x p l k j=>zc (g.grd.row x p l k j) a,g.grd.dis⟩,g.isp⟩
theorem qr7{w V b:World}{h:SHd}{S:Sp}{n g o:Nat}{u:List (Option Addr × Nat)}{c j:Nat}{p:Option Addr}{q:Nat}{r:List Sta}(v:0<S.rs.length)(d:IsSp w h S)(l:Below w.heap.size w V)(y:GA V w.heap.size g o u h S n (rwt S n S.rs.length))(i:AM w.heap.size V c none 0 [] (fun _=>ld0))(f:FO w.heap.size V b c none [] (fun _=>ld0) S [(0,0)] j p q r):OI w b h S n g o u c p q r (fun _=>ld0) [] (0 * n+0):=by
 have a:Below w.heap.size w b:=l.trans (f.kp.below l.size (fun k D e=>by
  rcases e with e | e
  ·have:=i.nb;omega
  ·cases e))
 refine⟨a,y.kept f.kp (fun k T A x e=>?_) (d.below a),f.am,?_⟩
 ·rcases e with e | e
  ·refine qu A ⟨_,i.box⟩ ?_ e
   rcases x with e | e | e <;> (rw[e];decide)
  ·cases e
 ·rcases f.an with ⟨-,⟨s,e,-⟩,-⟩ | ⟨s,e,-,-,h1,h2,-⟩
  ·cases e
  ·rw[List.nil_append]at e;subst e;refine⟨fun C B=>?_,by rw[Nat.zero_mul];exact Nat.zero_le _,fun t m=>?_,⟨fun j z _ h=>by rw[Nat.zero_mul]at h;omega,fun j z h=>by cases h⟩,fun _ _=>rfl,by simp⟩
   ·rw[Nat.zero_mul,List.map_singleton,h1];rfl
   ·rw[List.mem_singleton]at m;subst m;rw[h1];exact⟨h2,qit v,by simp⟩
def BO (w:World) (S:Sp) (n:Nat) (e:Ending) (w':World):Prop :=
 (e=.returned (.tuple #[.pointer none,.int .i64 6])/\Ovr9 S n/\Below w.heap.size w w')\/∃ab sa sc ss ld g,e=.returned (.tuple #[.pointer (some ⟨ab,0,none⟩),.int .i64 0])/\AM w.heap.size w' ab sa sc ss ld/\OA S n ss ld g (ss.length * n+0)/\Below w.heap.size w w'
theorem qul(w:World)(h:SHd)(S:Sp)(n:Nat)(hs:NSp S n)(i6:IsSp w h S):Calls Tryz.prog 16 #[sv h S] w fun e w'=>BO w S n e w':=by
 have hn:n<=301:=by have:=hs.nn;have:=hs.wf.tk;have:=hs.wf.nt;omega
 have m3:0<n:=by have:=hs.nn;omega
 have HX:=hid2 hs i6;have b5:Below w.heap.size w (w.alloc (.cells (sC h S) 31)):=qb _ _;have c9:(w.alloc (.cells (sC h S) 31)).heap[w.heap.size]?=some (.cells (sC h S) 31 (0,0)):=heap_alloc_new _ _
 obtain⟨P,HP⟩:∃P:Ending->World->Prop,Hid (P=fun e w'=>BO w S n e w'):=⟨_,rfl⟩
 rw[<-HP.out];clear hs i6;unfold sv;have e1:sC h S=#[.int .i64 (S.tk:Int),.int .i64 (S.nt:Int),.int .i64 (S.st:Int),.int .i64 S.ex,.slice h.na S.nm.length h.nc,.slice h.la S.lv.length h.lc,.slice h.aa S.az.length h.ac,.slice h.ra S.rs.length h.rc]:=rfl;rw[e1];go_enter Tryz.func16,Tryz.ntmps16
 go_upto_region 1 with fail
 rw[<-e1];generalize w.alloc (.cells (sC h S) 31)=W0 at b5 c9 ⊢;generalize w.heap.size=b1 at c9 ⊢;obtain⟨c0,c1,c2,c3,c4,c5,c6,c7⟩:=sbox c9;have HN:=hid (qpz W0 h S n HX.out.1 (HX.out.2.below b5));unfold sv at HN;rw[e1]at HN;clear e1;have f2:=hid b5;clear c9 b5;go_wp2_with fail;refine HN.out.mono ?_;rintro e R ⟨gb,rb,vs,rfl,g9,g7⟩;have H1:=hid2 (qd f2.out g7) (g9.mono f2.out.size);clear g9 g7 HN f2 c0 c1 c2 c3 c4 c5 c6 c7;have b6:Below R.heap.size R (R.alloc (.cells #[.slice none 0 0] 70)):=qb _ _;have b8:Below (R.alloc (.cells #[.slice none 0 0] 70)).heap.size (R.alloc (.cells #[.slice none 0 0] 70)) ((R.alloc (.cells #[.slice none 0 0] 70)).alloc (.cells #[.int .i64 0,.int .i64 0] 54)):=qb _ _
 have H2:Hid (Below w.heap.size w ((R.alloc (.cells #[.slice none 0 0] 70)).alloc (.cells #[.int .i64 0,.int .i64 0] 54))/\GA ((R.alloc (.cells #[.slice none 0 0] 70)).alloc (.cells #[.int .i64 0,.int .i64 0] 54)) w.heap.size gb rb vs h S n (rwt S n S.rs.length)/\AM w.heap.size ((R.alloc (.cells #[.slice none 0 0] 70)).alloc (.cells #[.int .i64 0,.int .i64 0] 54)) R.heap.size none 0 [] (fun _=>ld0)/\((R.alloc (.cells #[.slice none 0 0] 70)).alloc (.cells #[.int .i64 0,.int .i64 0] 54)).ownsRow w.heap.size 54 2 (.slice (some ⟨(R.alloc (.cells #[.slice none 0 0] 70)).heap.size,0,none⟩) 1 1) 1 (itC [(0,0)])) :=
  ⟨qd H1.out.1 (qd b6 b8),H1.out.2.below (qd b6 b8),(quj H1.out.1).below b8,zc (qtn _) (Nat.le_trans H1.out.1.size b6.size)⟩
 have i7:(R.alloc (.cells #[.slice none 0 0] 70)).heap.size=R.heap.size+1:=qz _ _;rw[i7]at H2;have hF:=hid (qp3 _ w.heap.size R.heap.size none 0 [] (fun _=>ld0) H2.out.2.2.1 w.heap.size gb rb vs h S n HX.out.1 H2.out.2.1 [(0,0)] _ 1 1 H2.out.2.2.2 (qit (by have:=HX.out.1.wf.hd;exact(List.getElem?_eq_some_iff.1 this).1)) (by decide) (by decide) rfl (fun s hs=>by cases hs))
 clear b6 b8 i7;go_wp2_with fail;refine hF.out.mono ?_;rintro e V3 ⟨⟨j0,I,Y,D⟩,rfl,fo⟩;simp only at fo;have H3:=hid (qr7 (List.getElem?_eq_some_iff.1 HX.out.1.wf.hd).1 HX.out.2 H2.out.1 H2.out.2.1 H2.out.2.2.1 fo);clear fo hF H2 H1;generalize R.heap.size=H at H3 ⊢;generalize R.heap.size+1=m5 at H3 ⊢;go_wp2_with fail
 go_loopg [6] 121 (fun kx s6 wr=>∃i:Nat,s6=.int .i64 (i:Int)/\i<=120/\121 - i<=kx/\Hid (∃I Y D G g,i<=D.length/\OI w wr h S n gb rb vs H I Y D G g (i * n+0)))
 case atStart=>exact⟨0,rfl,by omega,by omega,(⟨I,Y,D,_,_,Nat.zero_le _,H3.out⟩:∃I Y D G g,0<=List.length D/\OI w V3 h S n gb rb vs H I Y D G g (0 * n+0))⟩
 case round =>
  clear H3;obtain⟨i,rfl,hi,hg,J⟩:=hrel;obtain⟨I,Y,D,G,g,h6,oi⟩:=J.out;clear J;have c0:=oi.am.c0;have a7:=zq oi.am.own;have O:=oi.oa.l1
  by_cases l5:i<D.length
  ·have a4:(i:Int)<(D.length:Int):=by omega
   obtain⟨s,hs⟩:∃s,D[i]?=some s:=⟨_,List.getElem?_eq_getElem l5⟩
   obtain⟨sg,a6,d0,d1,d2⟩:=oi.am.at hs;obtain⟨a0,c8,l3⟩:=oi.oa.cs s (List.mem_of_getElem? hs)
   have g1:∀x∈s.L,OkI S x:=fun x hx=>qpv c8.ok ((a0.2 x).1 hx)
   have f8:=qe3 a0.1 g1 HX.out.1.nr HX.out.1.ln;have HK:=hid (qjm wr gb rb h S n HX.out.1 oi.ga.q s.L s.ia s.L.length s.ic (j2 (oi.am.itm i s hs)) g1 f8);have HI:=hid4 oi hs h6 a0;clear oi a0 c8 l3 g1 d0 d2 h6;generalize D.length=sn at c0 a7 a4 O;subst a6;go_wp2_with fail;refine HK.out.mono ?_;rintro e V ⟨B,q,b4,rfl,b9,g8⟩;have k4:=b9.dlen;have H4:=hid4 (HI.out.1.below g8) b9 HI.out.2.1 (show w.heap.size<=wr.heap.size from HI.out.1.bel.size);have g3:=hid (qu0 B V);have g4:=hid (qtl B V _ b4 _ b9.mp (by omega));clear HK g8 b9 d1 c0;go_wp2_with fail;refine g3.out.mono ?_;rintro e V2 ⟨rfl,rfl⟩;go_wp2_with fail;refine g4.out.mono ?_;rintro e V3 ⟨va,c,keys,rfl,d3,N,a5,f5⟩;have HA:=hid d3
   have H5:Hid (∃I Y D G g m,IN w V3 h S n gb rb vs H s i wr.heap.size B q b4 V.heap.size va c keys 0 m I Y D G g):=by
    refine⟨_,_,_,_,_,0,H4.out.1.below f5,H4.out.2.2.1,H4.out.2.1.below f5,H4.out.2.2.2,a5,fun t ht e=>?_,fun y _ _ h3=>?_,fun y hy=>?_,Nat.zero_le _⟩
    ·obtain⟨p,hp⟩:=List.mem_iff_getElem?.1 ht;have h1:=(HI.out.1.am.mpb p t hp).1.lt;have h2:=H4.out.2.1.nb;omega
    ·rw[List.drop_zero];exact N.mem_iff.2 ((H4.out.2.1.dm y).2 h3)
    ·rw[List.drop_zero]at hy;have h1:=N.mem_iff.1 hy;exact⟨Nat.zero_le _,H4.out.2.1.dl y h1,(H4.out.2.1.dm y).1 h1⟩
   have l4:keys.length<=301:=by rw[N.length_eq];omega
   have qk:=zq a5
   obtain⟨kl,f3⟩:∃kl,Hid (keys.length=kl):=⟨_,rfl⟩
   rw[f3.out]at l4 qk ⊢;generalize wr.heap.size=B2 at H4 H5 ⊢;generalize V.heap.size=B3 at H5 ⊢;clear d3 N a5 f5 H4 g3 g4 HI hs k4 a7;go_wp2_with fail
   go_loopg [42] kl (fun kx s42 wr=>∃j:Nat,s42=.int .i64 (j:Int)/\j<=kl/\kl - j<=kx/\Hid (∃I Y D G g m,IN w wr h S n gb rb vs H s i B2 B q b4 B3 va c keys j m I Y D G g))
   case atStart=>exact⟨0,rfl,Nat.zero_le _,by omega,H5⟩
   case round =>
    clear H5;obtain⟨j,rfl,hj,m1,J⟩:=hrel;obtain⟨I,Y,D,G,g,m,x⟩:=J.out;clear J
    by_cases h7:j<kl
    ·have h8:(j:Int)<(kl:Int):=by omega
     obtain⟨z,hz⟩:∃z,keys[j]?=some z:=⟨keys[j]'(by rw[f3.out];exact h7),List.getElem?_eq_getElem _⟩
     obtain⟨kb,ko,l6,cz⟩:=yd (Row.of_own x.kr) hz;obtain⟨g',ho,m2,g2,g0⟩:=x.adv HA.out hz;have A:=x.oi.am;have c0:=A.c0;obtain⟨sg,a6,-,-,d2⟩:=A.at x.hs;have a7:=zq A.own;have O:=x.oi.oa.l1;have l2:=(List.getElem?_eq_some_iff.1 x.hs).1;have a1:=x.km.mp;have f9:B<wr.heap.size:=a1.lt
     have h9:(nxt S s.L z).length<=840:=by
      have:=qg6 S s.L z;omega
     have ql:=zq (x.km.row z);have g6:=x.hB2;have i0:0<(nxt S s.L z).length:=List.length_pos_iff.2 g0;obtain⟨a0,c8,-⟩:=x.oi.oa.cs s (List.mem_of_getElem? x.hs);have b7:Below wr.heap.size wr wr.drew:=qo wr;have HQ:=hid (qp3 wr.drew w.heap.size H I Y D G (A.below b7) w.heap.size gb rb vs h S n HX.out.1 (x.oi.ga.below b7) (nxt S s.L z) (q z).1 (nxt S s.L z).length (q z).2 (zc (zl (x.km.row z) b7) g6) (qm6 a0.1 z) i0 (by omega) (x.oi.oa.lz _ (Nat.le_refl _)) (fun t ht=>(x.oi.oa.cs t ht).2.1))
     have d6:(G i).1.length<=1000:=by
      obtain⟨hm,-⟩:=A.mpb i s x.hs;obtain⟨_,_,-,-,k5⟩:=hm.ow;have:=qb2 n (G i).1 k5.nd (fun y hy=>(x.oi.oa.li.b i y hy).1);omega
     have l7:(i:Int)<(D.length:Int):=by omega
     have C:=hid4 x ho hz a1;have b2:=hid2 d6 g0
     have d7:B≠H:=fun e=>a1.ne ⟨_,A.box⟩ e.symm
     have d8:B≠s.mb:=fun e=>x.nm s (List.mem_of_getElem? x.hs) e.symm
     have d9:∀b,blk I=some b->B≠b:=fun b e e'=>a1.ne (qw A.own e).2.2 e'.symm
     have f4:Hid (∀V:World,V.heap[B]?=wr.heap[B]?->(Instr.lookup 80 (.map (some B)) (.int .i64 (z:Int)) false).run Tryz.prog V=.ok (.slice (q z).1 (nxt S s.L z).length (q z).2) V):=fun V M=>(a1.keep M).look u80 (Tryz.zeroValue46 _) z (by omega)
     have a9:Hid (∀(V Z:World) (u:Nat) (o:Option Addr) (l:Nat) (d:List Sta),FO w.heap.size wr.drew V H I D G S (nxt S s.L z) u o l d->Kept (fun b=>b=s.mb) V Z->V.heap[B]?=wr.heap[B]?/\Z.heap[B]?=wr.heap[B]?):=fun V Z u o l d f k=>by
      have h1:V.heap[B]?=wr.heap[B]?:=f.kp.block B f9 (fun e=>by
       rcases e with e | e
       ·exact d7 e
       ·exact d9 B e rfl)
      exact⟨h1,by rw[k.block B (Nat.lt_of_lt_of_le f9 f.kp.size) d8];exact h1⟩
     have b3:Hid (∀(V:World) (u:Nat) (o:Option Addr) (l:Nat) (d:List Sta),FO w.heap.size wr.drew V H I D G S (nxt S s.L z) u o l d->V.cell? ⟨sg,i * 3+2,none⟩=some (.map (some s.mb))/\V.cell? ⟨H,0,none⟩=some (.slice o d.length l)/\(i:Int)<(d.length:Int)/\d.length<=l/\l<=9223372036854775807/\∃Q,o=some ⟨Q,0,none⟩/\V.cell? ⟨Q,i * 3+2,none⟩=some (.map (some s.mb))):=fun V u o l d f=>by
      obtain⟨Q,e,-,-,h3⟩:=f.am.at (f.pre i s C.out.1.hs);have h4:=zq f.am.own;have h5:=(List.getElem?_eq_some_iff.1 (f.pre i s C.out.1.hs)).1;exact⟨f.od i s sg C.out.1.hs a6,f.am.c0,by omega,h4.1,h4.2,Q,e,h3⟩
     have b0:Hid (∀(V:World) (u:Nat) (o:Option Addr) (l:Nat) (d:List Sta),FO w.heap.size wr.drew V H I D G S (nxt S s.L z) u o l d->∃Z,(Instr.mapUpdate 72 (.map (some s.mb)) (.int .i64 (z:Int)) (.int .i64 (u:Int))).run Tryz.prog V=.ok () Z/\Hid (FL9 w wr Z S H s i z I D G (nxt S s.L z) u o l d)/\Kept (fun b=>b=s.mb) V Z):=fun V u o l d f=>qtm f C.out.1.hs (by omega) b2.out.1
     have i8:z<=1000:=by omega
     subst l6;have m0:Hid (I=some ⟨sg,0,none⟩):=a6;subst a6
     obtain⟨lz,k1⟩:∃lz,Hid ((nxt S s.L z).length=lz):=⟨_,rfl⟩
     rw[k1.out]at f4 HQ h9 ql i0
     obtain⟨sn,k2⟩:∃sn,Hid (D.length=sn):=⟨_,rfl⟩
     rw[k2.out]at c0 a7 O l2 l7
     generalize (q z).1=qa at *
     generalize (q z).2=qc at *
     clear x A ho hz a1 f9 g6 a0 c8 b7 d6 g0 d7 d8 d9
     go_upto_region 11 with fail
     clear cz
     go_cut [60] (fun s60 wd=>∃u:Nat,s60=.int .i64 (u:Int)/\Hid (∃o l d,FL9 w wr wd S H s i z (some ⟨sg,0,none⟩) D G (nxt S s.L z) u o l d))
     case first =>
      refine wp_region_held_drew (S:=fun w'=>w'.heap[B]?=wr.heap[B]?/\True) (by kernel_rfl) ⟨rfl,trivial⟩ (fun a=>?_);refine wpAnyH_take (i:=0) (v:=.pointer (some ⟨H,0,none⟩)) rfl (by kernel_rfl) (by kernel_rfl) (by kernel_rfl) (fun _ _ _ h=>h) (Or.inl ⟨by rfl,fun w9 r=>?_⟩) a ?_
      ·(obtain⟨F,-⟩:=r;go_simp)
      simp only[Act.put];refine wpAnyH_take (i:=1) (v:=.pointer (some ⟨H,0,none⟩)) rfl (by kernel_rfl) (by kernel_rfl) (by kernel_rfl) (fun _ _ _ h=>h) (Or.inl ⟨by rfl,fun w9 r=>?_⟩) a ?_
      ·(obtain⟨F,-⟩:=r;go_simp)
      simp only[Act.put];refine wpAnyH_take (i:=2) (v:=.pointer (some ⟨H,0,none⟩)) rfl (by kernel_rfl) (by kernel_rfl) (by kernel_rfl) (fun _ _ _ h=>h) (Or.inl ⟨by rfl,fun w9 r=>?_⟩) a ?_
      ·(obtain⟨F,-⟩:=r;go_simp)
      simp only[Act.put];refine wpAnyH_take (i:=4) (v:=.int .i64 (i:Int)) rfl (by kernel_rfl) (by kernel_rfl) (by kernel_rfl) (fun _ _ _ h=>h) (Or.inl ⟨by rfl,fun w9 r=>?_⟩) a ?_
      ·(obtain⟨F,-⟩:=r;go_simp)
      simp only[Act.put];refine wpAnyH_take (i:=8) (v:=.int .i64 (z:Int)) rfl (by kernel_rfl) (by kernel_rfl) (by kernel_rfl) (fun _ _ _ h=>h) (Or.inl ⟨by rfl,fun w9 r=>?_⟩) a ?_
      ·(obtain⟨F,-⟩:=r;go_simp)
      simp only[Act.put];refine wpAnyH_take (i:=9) (v:=.pointer (some ⟨H,0,none⟩)) rfl (by kernel_rfl) (by kernel_rfl) (by kernel_rfl) (fun _ _ _ h=>h) (Or.inl ⟨by rfl,fun w9 r=>?_⟩) a ?_
      ·(obtain⟨F,-⟩:=r;go_simp)
      simp only[Act.put];refine wpAnyH_take (i:=10) (v:=.pointer (some ⟨gb,0,none⟩)) rfl (by kernel_rfl) (by kernel_rfl) (by kernel_rfl) (fun _ _ _ h=>h) (Or.inl ⟨by rfl,fun w9 r=>?_⟩) a ?_
      ·(obtain⟨F,-⟩:=r;go_simp)
      simp only[Act.put];refine wpAnyH_take (i:=11) (v:=.map (some B)) rfl (by kernel_rfl) (by kernel_rfl) (by kernel_rfl) (fun _ _ _ h=>h) (Or.inl ⟨by rfl,fun w9 r=>?_⟩) a ?_
      ·(obtain⟨F,-⟩:=r;go_simp)
      simp only[Act.put];refine wpAnyH_take (i:=12) (v:=.int .i64 (z:Int)) rfl (by kernel_rfl) (by kernel_rfl) (by kernel_rfl) (fun _ _ _ h=>h) (Or.inl ⟨by rfl,fun w9 r=>?_⟩) a ?_
      ·(obtain⟨F,-⟩:=r;go_simp)
      simp only[Act.put];refine wpAnyH_take (i:=13) (v:=.slice qa lz qc) rfl (by kernel_rfl) (by kernel_rfl) (by kernel_rfl) (fun _ _ _ h=>h) (Or.inl ⟨by rfl,fun w9 r=>?_⟩) a ?_
      ·(obtain⟨F,-⟩:=r;have l9:=f4.out w9 F;go_simp)
      simp only[Act.put];refine wpAnyH_ready (rs:=[3,14]) (by kernel_rfl) (by simp) ?_;refine AllReadyH.cons rfl (fun K E=>?_) (AllReadyH.cons rfl (fun K E=>?_) AllReadyH.nil)
      ·go_simp
       refine E.out _ _ ⟨rfl,trivial⟩ (fun a=>?_);clear E K;refine wpAnyH_take (i:=5) (v:=.pointer (some ⟨sg,i * 3,none⟩)) rfl (by kernel_rfl) (by kernel_rfl) (by kernel_rfl) (fun _ _ _ h=>h) (Or.inl ⟨by rfl,fun w9 r=>?_⟩) a ?_
       ·(obtain⟨F,-⟩:=r;go_simp)
       simp only[Act.put];refine wpAnyH_take (i:=6) (v:=.pointer (some ⟨sg,i * 3+2,none⟩)) rfl (by kernel_rfl) (by kernel_rfl) (by kernel_rfl) (fun _ _ _ h=>h) (Or.inl ⟨by rfl,fun w9 r=>?_⟩) a ?_
       ·(obtain⟨F,-⟩:=r;go_simp)
       simp only[Act.put];refine wpAnyH_ready (rs:=[7,14]) (by kernel_rfl) (by simp) ?_;refine AllReadyH.cons rfl (fun K E=>?_) (AllReadyH.cons rfl (fun K E=>?_) AllReadyH.nil)
       ·go_simp
        refine E.out _ _ ⟨rfl,trivial⟩ (fun a=>?_);clear E K;refine wpAnyH_ready (rs:=[14]) (by kernel_rfl) (by simp) ?_;refine AllReadyH.cons rfl (fun K E=>?_) AllReadyH.nil;refine jl rfl 34 #[.pointer (some ⟨H,0,none⟩),.pointer (some ⟨gb,0,none⟩),.slice qa lz qc] (fun x:Nat × Option Addr × Nat × List Sta=>.int .i64 (x.1:Int)) _ (by simp[Act.eval,go_sem]) HQ.out (fun y V M=>?_);obtain⟨u,o,l,d⟩:=y;simp only at M;obtain⟨Z,hu,HL,T⟩:=b0.out V u o l d M;obtain⟨X,a8⟩:=a9.out V Z u o l d M T;obtain⟨i1,d5,h0,i2,i5,Q,U,f0⟩:=b3.out V u o l d M;subst U;have HV:=hid M;clear M T;refine E.out _ _ ⟨X,trivial⟩ (fun a=>?_);clear E K;simp only[Act.put];refine wpAnyH_ready (rs:=[15]) (by kernel_rfl) (by simp) ?_;refine AllReadyH.cons rfl (fun K E=>?_) AllReadyH.nil
        go_simp
        refine E.out _ _ ⟨a8,trivial⟩ (fun a=>?_);clear E K;refine wpAnyH_done (by kernel_rfl) ?_ _;go_wp2_with fail;go_meet;exact⟨u,rfl,(⟨_,l,d,HL.out⟩:∃o l d,FL9 w wr Z S H s i z (some ⟨sg,0,none⟩) D G (nxt S s.L z) u o l d)⟩
       ·refine jl rfl 34 #[.pointer (some ⟨H,0,none⟩),.pointer (some ⟨gb,0,none⟩),.slice qa lz qc] (fun x:Nat × Option Addr × Nat × List Sta=>.int .i64 (x.1:Int)) _ (by simp[Act.eval,go_sem]) HQ.out (fun y V M=>?_);obtain⟨u,o,l,d⟩:=y;simp only at M;obtain⟨Z,hu,HL,T⟩:=b0.out V u o l d M;obtain⟨X,a8⟩:=a9.out V Z u o l d M T;obtain⟨i1,d5,h0,i2,i5,Q,U,f0⟩:=b3.out V u o l d M;subst U;have HV:=hid M;clear M T;refine E.out _ _ ⟨X,trivial⟩ (fun a=>?_);clear E K;simp only[Act.put];refine wpAnyH_ready (rs:=[7]) (by kernel_rfl) (by simp) ?_;refine AllReadyH.cons rfl (fun K E=>?_) AllReadyH.nil
        go_simp
        refine E.out _ _ ⟨X,trivial⟩ (fun a=>?_);clear E K;refine wpAnyH_ready (rs:=[15]) (by kernel_rfl) (by simp) ?_;refine AllReadyH.cons rfl (fun K E=>?_) AllReadyH.nil
        go_simp
        refine E.out _ _ ⟨a8,trivial⟩ (fun a=>?_);clear E K;refine wpAnyH_done (by kernel_rfl) ?_ _;go_wp2_with fail;go_meet;exact⟨u,rfl,(⟨_,l,d,HL.out⟩:∃o l d,FL9 w wr Z S H s i z (some ⟨sg,0,none⟩) D G (nxt S s.L z) u o l d)⟩
      ·refine jl rfl 34 #[.pointer (some ⟨H,0,none⟩),.pointer (some ⟨gb,0,none⟩),.slice qa lz qc] (fun x:Nat × Option Addr × Nat × List Sta=>.int .i64 (x.1:Int)) _ (by simp[Act.eval,go_sem]) HQ.out (fun y V M=>?_);obtain⟨u,o,l,d⟩:=y;simp only at M;obtain⟨Z,hu,HL,T⟩:=b0.out V u o l d M;obtain⟨X,a8⟩:=a9.out V Z u o l d M T;obtain⟨i1,d5,h0,i2,i5,Q,U,f0⟩:=b3.out V u o l d M;subst U;have HV:=hid M;clear M T;refine E.out _ _ ⟨X,trivial⟩ (fun a=>?_);clear E K;simp only[Act.put];refine wpAnyH_ready (rs:=[3]) (by kernel_rfl) (by simp) ?_;refine AllReadyH.cons rfl (fun K E=>?_) AllReadyH.nil
       go_simp
       refine E.out _ _ ⟨X,trivial⟩ (fun a=>?_);clear E K;refine wpAnyH_take (i:=5) (v:=.pointer (some ⟨Q,i * 3,none⟩)) rfl (by kernel_rfl) (by kernel_rfl) (by kernel_rfl) (fun _ _ _ h=>h) (Or.inl ⟨by rfl,fun w9 r=>?_⟩) a ?_
       ·(obtain⟨F,-⟩:=r;go_simp)
       simp only[Act.put];refine wpAnyH_take (i:=6) (v:=.pointer (some ⟨Q,i * 3+2,none⟩)) rfl (by kernel_rfl) (by kernel_rfl) (by kernel_rfl) (fun _ _ _ h=>h) (Or.inl ⟨by rfl,fun w9 r=>?_⟩) a ?_
       ·(obtain⟨F,-⟩:=r;go_simp)
       simp only[Act.put];refine wpAnyH_ready (rs:=[7]) (by kernel_rfl) (by simp) ?_;refine AllReadyH.cons rfl (fun K E=>?_) AllReadyH.nil
       go_simp
       refine E.out _ _ ⟨X,trivial⟩ (fun a=>?_);clear E K;refine wpAnyH_ready (rs:=[15]) (by kernel_rfl) (by simp) ?_;refine AllReadyH.cons rfl (fun K E=>?_) AllReadyH.nil
       go_simp
       refine E.out _ _ ⟨a8,trivial⟩ (fun a=>?_);clear E K;refine wpAnyH_done (by kernel_rfl) ?_ _;go_wp2_with fail;go_meet;exact⟨u,rfl,(⟨_,l,d,HL.out⟩:∃o l d,FL9 w wr Z S H s i z (some ⟨sg,0,none⟩) D G (nxt S s.L z) u o l d)⟩
     case rest =>
      obtain⟨w1,m4⟩:∃w1,w1=wc:=⟨_,rfl⟩
      subst wc;obtain⟨u,rfl,J⟩:=hcut;obtain⟨o,l,d,fl⟩:=J.out;clear J HQ f4 a9 b3 b0 c0 d2;have c0:=fl.am.c0;have f1:=zq fl.am.own
      have d4:Below w.heap.size w w1:=by
       have A:=C.out.1.oi.am;refine C.out.1.oi.bel.trans (fl.kp.below C.out.1.oi.bel.size (fun k hk e=>?_))
       rcases e with e | e | e
       ·have:=A.nb;omega
       ·have:=(qw A.own e).1;omega
       ·have:=(A.mpb i s C.out.1.hs).2;omega
      have k0:=hid d4;have a2:=hid fl
      have f6:(∃g5,Hid (OA S n d (upd G i (domI (G i).1 z,fun y=>if y=z then .int .i64 (u:Int) else (G i).2 y)) g5 (i * n+z+1)))\/(120<d.length/\Hid (Ovr9 S n)):=by
       have k3:=C.out.1.oi.oa.cs s (List.mem_of_getElem? C.out.1.hs)
       rcases fl.an with ⟨e,h1,h2⟩ | ⟨t,e,e2,h1,h2,h3,-⟩
       ·rw[e];exact .inl ⟨_,C.out.2.1.old C.out.1.hs g2 rfl b2.out.2 h1 h2⟩
       ·by_cases a3:D.length<120
        ·rw[e,e2];exact .inl ⟨_,C.out.2.1.new C.out.1.hs g2 rfl b2.out.2 (qm6 k3.1.1 z) h1 a3 h2 h3⟩
        ·exact .inr ⟨by rw[e,List.length_append];simp;omega,C.out.2.1.over C.out.1.hs g2 rfl b2.out.2 h1 (by omega)⟩
      clear fl d4
      rcases f6 with ⟨g5,hoa⟩ | ⟨hbig,hov⟩
      ·have a3:d.length<=120:=hoa.out.l1;have f7:decide ((d.length:Int) > 120)=false:=decide_eq_false (by omega)
       have HF:Hid (∃I Y D G g m,IN w w1 h S n gb rb vs H s i B2 B q b4 B3 (some ⟨kb,ko,none⟩) c keys (j+1) m I Y D G g):=⟨_,_,_,_,_,_,C.out.1.next HX.out.2 HA.out C.out.2.2.1 a2.out hoa.out⟩
       clear a2 hoa C;generalize d.length=l8 at c0 f1 f7 a3;go_wp2_with fail;go_roundg (kl - (j+1))
       case measure=>omega
       case rel=>exact⟨j+1,by simp,h7,Nat.le_refl _,HF⟩
      ·have f7:decide ((d.length:Int) > 120)=true:=decide_eq_true (by omega);have HF:Hid (BO w S n (.returned (.tuple #[.pointer none,.int .i64 6])) w1):=.inl ⟨rfl,hov.out,k0.out⟩;clear a2 hov C;generalize d.length=l8 at c0 f1 f7 hbig;go_wp2_with fail;rw[HP.out];exact HF.out
    ·have h8:¬(j:Int)<(kl:Int):=by omega
     have HF:Hid (∃I Y D G g,i+1<=D.length/\OI w wr h S n gb rb vs H I Y D G g ((i+1) * n+0)):=by
      obtain⟨g',k6⟩:=x.last (by rw[f3.out];omega)
      exact⟨_,_,_,_,_,(List.getElem?_eq_some_iff.1 x.hs).1,k6⟩
     have k7:i+1<=120:=by
      obtain⟨_,_,_,_,_,h1,h2⟩:=HF.out;have:=h2.oa.l1;omega
     clear x;go_wp2_with fail;go_roundg (121 - (i+1))
     case measure=>omega
     case rel=>exact⟨i+1,by simp,k7,Nat.le_refl _,HF⟩
  ·have a4:¬(i:Int)<(D.length:Int):=by omega
   have l0:i=D.length:=by omega
   have HF:Hid (BO w S n (.returned (.tuple #[.pointer (some ⟨H,0,none⟩),.int .i64 0])) wr):=by
    refine .inr ⟨H,I,Y,D,G,g,rfl,oi.am,?_,oi.bel⟩;rw[<-l0];exact oi.oa
   clear oi;generalize D.length=sn at c0 a7 a4 O;go_wp2_with fail;rw[HP.out];exact HF.out
theorem qp4{B:Nat}{W:World}{c:Nat}{f:Option Addr}{g:Nat}{b:List Sta}{d:Lds}(h:AM B W c f g b d):Calls Tryz.prog 12 #[.pointer (some ⟨c,0,none⟩)] W fun e i=>e=.returned (.int .i64 (b.length:Int))/\i=W:=by
 have c0:=h.c0;have a:=zq h.own;generalize b.length=j at c0 a ⊢;clear h;go_enter Tryz.func12,Tryz.ntmps12;go_wp2_with fail;go_ret;exact⟨rfl,rfl⟩
theorem qu6(W:World):Calls Tryz.prog 12 #[.pointer none] W fun e a=>e=.returned (.int .i64 0)/\a=W:=by
 go_enter Tryz.func12,Tryz.ntmps12;go_wp2_with fail;go_ret;exact⟨rfl,rfl⟩
def zSta:Value:=.agg #[.slice none 0 0,.slice none 0 0,.map none]
theorem box3(W:World)(a b c:Value):(W.alloc (.cells #[a,b,c] 74)).cell? ⟨W.heap.size,0,none⟩=some a/\(W.alloc (.cells #[a,b,c] 74)).cell? ⟨W.heap.size,1,none⟩=some b/\(W.alloc (.cells #[a,b,c] 74)).cell? ⟨W.heap.size,2,none⟩=some c :=
 ⟨by rw[qe (heap_alloc_new W _)];rfl,by rw[qe (heap_alloc_new W _)];rfl,by rw[qe (heap_alloc_new W _)];rfl⟩
theorem qd1{P:Value}(W:World)(i:Int)(b:Nat)(g:∀V,Below W.heap.size W V->Calls Tryz.prog 12 #[P] V fun e a=>e=.returned (.int .i64 (b:Int))/\a=V)(l:i<0\/(b:Int)<=i):
  Calls Tryz.prog 32 #[P,.int .i64 i] W fun e a=>e=.returned zSta/\Below W.heap.size W a:=by
 have d:=hid (g (W.alloc (.cells #[.slice none 0 0,.slice none 0 0,.map none] 74)) (qb _ _));have c:Hid (Below W.heap.size W (W.alloc (.cells #[.slice none 0 0,.slice none 0 0,.map none] 74))):=qb _ _;have k:=box3 W (.slice none 0 0) (.slice none 0 0) (.map none);obtain⟨m,n,o⟩:=k;clear g
 by_cases f:i<0
 ·have h:decide (i<0)=true:=decide_eq_true f;clear d l;go_enter Tryz.func32,Tryz.ntmps32;go_wp2_with fail;refine bodyPost_ret (v:=zSta) (by simp[results,Tryz.results32,go_sem, *];rfl) rfl ?_
  exact⟨rfl,c.out⟩
 ·have h:decide (i<0)=false:=decide_eq_false f;have j:decide (i ≥ (b:Int))=true:=decide_eq_true (by omega);go_enter Tryz.func32,Tryz.ntmps32;go_wp2_with fail;refine d.out.mono ?_;rintro e a ⟨rfl,rfl⟩;go_wp2_with fail;refine bodyPost_ret (v:=zSta) (by simp[results,Tryz.results32,go_sem, *];rfl) rfl ?_
  exact⟨rfl,c.out⟩
theorem qf8{B:Nat}{W:World}{d:Nat}{r:Option Addr}{t:Nat}{a:List Sta}{p:Lds}(h:AM B W d r t a p){i:Nat}{s:Sta}(c:a[i]?=some s):
  Calls Tryz.prog 32 #[.pointer (some ⟨d,0,none⟩),.int .i64 (i:Int)] W fun e f=>e=.returned (.agg (sta3 s).toArray)/\Below W.heap.size W f:=by
 have b:=h.below (qb W (.cells #[.slice none 0 0,.slice none 0 0,.map none] 74));have k:=hid (qp4 b);have n:=zq h.own;have A:=(List.getElem?_eq_some_iff.1 c).1;have z:decide ((i:Int)<0)=false:=decide_eq_false (by omega);have l:decide ((i:Int) ≥ (a.length:Int))=false:=decide_eq_false (by omega)
 have m:(i:Int)<(a.length:Int):=by omega
 have c0:=b.c0;obtain⟨g,rfl,u,x,y⟩:=b.at c;have j:Hid (Below W.heap.size W (W.alloc (.cells #[.slice s.ka s.K.length s.kc,.slice s.ia s.L.length s.ic,.map (some s.mb)] 74))):=qb _ _;obtain⟨C,D,E⟩:=box3 W (.slice s.ka s.K.length s.kc) (.slice s.ia s.L.length s.ic) (.map (some s.mb));unfold sta3
 generalize a.length=F at *
 generalize s.K.length=o at *
 generalize s.L.length=q at *
 clear h b c;go_enter Tryz.func32,Tryz.ntmps32;go_wp2_with fail;refine k.out.mono ?_;rintro e f ⟨rfl,rfl⟩;go_wp2_with fail;refine bodyPost_ret (v:=.agg #[.slice s.ka o s.kc,.slice s.ia q s.ic,.map (some s.mb)]) (by simp[results,Tryz.results32,go_sem, *]) rfl ?_;exact⟨rfl,j.out⟩
theorem qp5(a b c:Value)(W:World):(Instr.field 74 (.agg #[a,b,c]) 0).run Tryz.prog W=.ok a W:=by kernel_rfl
theorem qp6(a b c:Value)(W:World):(Instr.field 74 (.agg #[a,b,c]) 1).run Tryz.prog W=.ok b W:=by kernel_rfl
theorem qp7(a b c:Value)(W:World):(Instr.field 74 (.agg #[a,b,c]) 2).run Tryz.prog W=.ok c W:=by kernel_rfl
theorem qu2{B:Nat}{W:World}{l:Nat}{z:Option Addr}{A:Nat}{o:List Sta}{y:Lds}(h:AM B W l z A o y){i:Nat}{s:Sta}(b:o[i]?=some s)(t:0<s.K.length)(u:s.K.length<=100000):
  Calls Tryz.prog 13 #[.pointer (some ⟨l,0,none⟩),.int .i64 (i:Int)] W fun e p=>∃g c,e=.returned (.slice (some ⟨g,0,none⟩) s.K.length c)/\ItR p (some ⟨g,0,none⟩) s.K.length c s.K/\Below W.heap.size W p:=by
 have f:=hid (qf8 h b);unfold sta3 at f
 have q:Hid (∀V,Below W.heap.size W V->Calls Tryz.prog 31 #[.slice s.ka s.K.length s.kc] V fun e k=>∃g c,e=.returned (.slice (some ⟨g,0,none⟩) s.K.length c)/\k.ownsRow V.heap.size 54 2 (.slice (some ⟨g,0,none⟩) s.K.length c) s.K.length (itC s.K)/\Below V.heap.size V k):=fun V v=>qcw V s.K s.ka s.K.length s.kc (j2 ((h.below v).ker i s b)) t u
 clear h b;have x:=qp5;go_enter Tryz.func13,Tryz.ntmps13;go_wp2_with fail;refine f.out.mono ?_;rintro e V ⟨rfl,m⟩;have d:=hid m;clear m;go_wp2_with fail;refine(q.out V d.out).mono ?_;rintro e j ⟨g,c,rfl,n,a⟩
 have r:Hid (ItR j (some ⟨g,0,none⟩) s.K.length c s.K/\Below W.heap.size W j):=⟨j2 n,qd d.out a⟩
 clear n a;go_wp2_with fail;go_ret;exact⟨g,c,rfl,r.out⟩
theorem qum{P:Value}(W:World)(i:Int)(a:Nat)(d:∀V,Below W.heap.size W V->Calls Tryz.prog 12 #[P] V fun e b=>e=.returned (.int .i64 (a:Int))/\b=V)(g:i<0\/(a:Int)<=i):
  Calls Tryz.prog 13 #[P,.int .i64 i] W fun e b=>e=.returned (.slice none 0 0)/\Below W.heap.size W b:=by
 have c:=hid (qd1 W i a d g);unfold zSta at c;clear d g;have j:=qp5;go_enter Tryz.func13,Tryz.ntmps13;go_wp2_with fail;refine c.out.mono ?_;rintro e V ⟨rfl,f⟩;have h:=hid f;clear f;go_wp2_with fail;refine(qg8 V).mono ?_;rintro e k ⟨rfl,rfl⟩;go_wp2_with fail;go_ret;exact⟨rfl,h.out⟩
theorem qu4{B:Nat}{W:World}{l:Nat}{z:Option Addr}{A:Nat}{o:List Sta}{y:Lds}(h:AM B W l z A o y){i:Nat}{s:Sta}(b:o[i]?=some s)(t:0<s.L.length)(u:s.L.length<=100000):
  Calls Tryz.prog 14 #[.pointer (some ⟨l,0,none⟩),.int .i64 (i:Int)] W fun e p=>∃g c,e=.returned (.slice (some ⟨g,0,none⟩) s.L.length c)/\ItR p (some ⟨g,0,none⟩) s.L.length c s.L/\Below W.heap.size W p:=by
 have f:=hid (qf8 h b);unfold sta3 at f
 have q:Hid (∀V,Below W.heap.size W V->Calls Tryz.prog 31 #[.slice s.ia s.L.length s.ic] V fun e k=>∃g c,e=.returned (.slice (some ⟨g,0,none⟩) s.L.length c)/\k.ownsRow V.heap.size 54 2 (.slice (some ⟨g,0,none⟩) s.L.length c) s.L.length (itC s.L)/\Below V.heap.size V k):=fun V v=>qcw V s.L s.ia s.L.length s.ic (j2 ((h.below v).itm i s b)) t u
 clear h b;have x:=qp6;go_enter Tryz.func14,Tryz.ntmps14;go_wp2_with fail;refine f.out.mono ?_;rintro e V ⟨rfl,m⟩;have d:=hid m;clear m;go_wp2_with fail;refine(q.out V d.out).mono ?_;rintro e j ⟨g,c,rfl,n,a⟩
 have r:Hid (ItR j (some ⟨g,0,none⟩) s.L.length c s.L/\Below W.heap.size W j):=⟨j2 n,qd d.out a⟩
 clear n a;go_wp2_with fail;go_ret;exact⟨g,c,rfl,r.out⟩
theorem qu1{P:Value}(W:World)(i:Int)(a:Nat)(d:∀V,Below W.heap.size W V->Calls Tryz.prog 12 #[P] V fun e b=>e=.returned (.int .i64 (a:Int))/\b=V)(g:i<0\/(a:Int)<=i):
  Calls Tryz.prog 14 #[P,.int .i64 i] W fun e b=>e=.returned (.slice none 0 0)/\Below W.heap.size W b:=by
 have c:=hid (qd1 W i a d g);unfold zSta at c;clear d g;have j:=qp6;go_enter Tryz.func14,Tryz.ntmps14;go_wp2_with fail;refine c.out.mono ?_;rintro e V ⟨rfl,f⟩;have h:=hid f;clear f;go_wp2_with fail;refine(qg8 V).mono ?_;rintro e k ⟨rfl,rfl⟩;go_wp2_with fail;go_ret;exact⟨rfl,h.out⟩
theorem MpR.look2{W:World}{r t e:Nat}{k:Value}{g:List Nat}{f:Nat->Value}(h:MpR W r k g f)(C:Tryz.prog.underlying t=some (.map 3 e))(E:(zeroValue e).run Tryz.prog W=.ok k W)(x:Int)(F:-1000<=x/\x<=1000):
  ∃(v:Value) (b:Bool),(Instr.lookup t (.map (some r)) (.int .i64 x) true).run Tryz.prog W=.ok (.tuple #[v,.bool b]) W/\(b=true↔0<=x/\x.toNat∈g)/\(0<=x->v=f x.toNat)/\(x<0->v=k):=by
 obtain⟨m,D,-,A,hd⟩:=h.ow
 have z:keyOf Tryz.prog 3 (.int .i64 x)=some (.int .i64 x):=Maps.keyOf_int_mk Tryz.underlying3 (by
  simp[Lit.wf,IntKind.min,IntKind.max,IntKind.bits,IntKind.signed]
  omega)
 obtain⟨v,ps,B,a⟩:=A.look_ok key3 C E (zd:=.held k) (zp:=[]) rfl z;refine⟨v,_,B,?_,fun j=>?_,fun j=>?_⟩
 ·constructor
  ·intro c;obtain⟨s,rfl,-,d⟩:=hd.im;have i:=c;rw[Maps.has_eq,List.any_eq_true]at i;obtain⟨p,l,n⟩:=i;obtain⟨y,o⟩:=d p l;have e:=WideAt.sameKey_eq n;rw[o]at e
   injection e with _ e
   subst e;exact⟨by omega,by rw[Int.toNat_natCast];exact(hd.hs y).1 c⟩
  ·rintro⟨j,u⟩;have:=(hd.hs x.toNat).2 u;rw[Int.toNat_of_nonneg j]at this;exact this
 ·have q:=hd.va x.toNat;rw[Int.toNat_of_nonneg j]at q;rw[q]at a;unfold RV at a
  injection a with a
  injection a with a _
  injection a with a
 ·have c:Maps.has D (.int .i64 x)=false:=by
   cases c:Maps.has D (.int .i64 x)
   ·rfl
   ·obtain⟨s,rfl,-,d⟩:=hd.im;rw[Maps.has_eq,List.any_eq_true]at c;obtain⟨p,l,n⟩:=c;obtain⟨y,o⟩:=d p l;have e:=WideAt.sameKey_eq n;rw[o]at e
    injection e with _ e
    omega
  rw[Maps.atKey_of_not_has c]at a;unfold RV at a
  injection a with a
  injection a with a _
  injection a with a
def gAt (n ln:Nat) (g:List Int) (i x:Int):Int:=if 0<=i/\i<(ln:Int)/\0<=x/\x<(n:Int) then (g[i.toNat * n+x.toNat]?).getD (-1) else -1
theorem qu8{B:Nat}{W:World}{I:Nat}{P:Option Addr}{Q:Nat}{l:List Sta}{E:Lds}{S:Sp}{n:Nat}{g:List Int}(h:AM B W I P Q l E)(o:OA S n l E g (l.length * n+0)){i:Nat}{s:Sta}(t:l[i]?=some s)(x:Int)(O:-1000<=x/\x<=1000):
  Calls Tryz.prog 15 #[.pointer (some ⟨I,0,none⟩),.int .i64 (i:Int),.int .i64 x] W fun e R=>e=.returned (.int .i64 (gAt n l.length g i x))/\Below W.heap.size W R:=by
 have H:=hid (qf8 h t);unfold sta3 at H;have N:=(List.getElem?_eq_some_iff.1 t).1
 have G:Hid (∀V,Below W.heap.size W V->∃(v:Int) (b:Bool),(Instr.lookup 72 (.map (some s.mb)) (.int .i64 x) true).run Tryz.prog V=.ok (.tuple #[.int .i64 v,.bool b]) V/\gAt n l.length g i x=if b then v else -1):=fun V K=>by
  obtain⟨v,b,j,f,q,D⟩:=((h.below K).mpb i s t).1.look2 u72 (Tryz.zeroValue3 _) x O
  by_cases A:0<=x
  ·obtain⟨z,rfl⟩:∃z:Nat,x=(z:Int):=⟨x.toNat,by omega⟩
   have q:=q A;rw[Int.toNat_natCast]at f q
   have M:gAt n l.length g i (z:Int)=if z<n then (g[i * n+z]?).getD (-1) else -1:=by
    unfold gAt
    by_cases m:z<n
    ·rw[if_pos ⟨by omega,by omega,A,by omega⟩,if_pos m,Int.toNat_natCast,Int.toNat_natCast]
    ·rw[if_neg (fun e=>m (by omega)),if_neg m]
   rw[M]
   by_cases m:z<n
   ·rw[if_pos m]
    obtain⟨y,J,k⟩:=o.li.a i z m (by
     have:(i+1) * n<=l.length * n:=Nat.mul_le_mul_right n N;rw[Nat.add_mul,Nat.one_mul]at this
     omega)
    rw[J,Option.getD_some]
    rcases k with ⟨rfl,k⟩ | ⟨u,rfl,k,h6⟩
    ·have c:b=false:=by
      cases b
      ·rfl
      ·exact absurd (f.1 rfl).2 k
     subst c
     have d:v=zI:=by
      obtain⟨_,_,-,-,p⟩:=(h.mpb i s t).1.ow;rw[q];exact p.off k
     rw[d]at j;exact⟨0,false,j,rfl⟩
    ·have c:b=true:=f.2 ⟨A,k⟩;subst c;rw[q,h6]at j;exact⟨u,true,j,rfl⟩
   ·rw[if_neg m]
    have k:z ∉ (E i).1:=fun e=>m (o.li.b i z e).1
    have c:b=false:=by
     cases b
     ·rfl
     ·exact absurd (f.1 rfl).2 k
    subst c
    have d:v=zI:=by
     obtain⟨_,_,-,-,p⟩:=(h.mpb i s t).1.ow;rw[q];exact p.off k
    rw[d]at j;exact⟨0,false,j,rfl⟩
  ·have c:b=false:=by
    cases b
    ·rfl
    ·exact absurd (f.1 rfl).1 A
   subst c;rw[D (by omega)]at j;refine⟨0,false,j,?_⟩;unfold gAt;rw[if_neg (fun e=>A e.2.2.1)];rfl
 clear h t;generalize gAt n l.length g i x=r at G ⊢;have L:=qp7;go_enter Tryz.func15,Tryz.ntmps15;go_wp2_with fail;refine H.out.mono ?_;rintro e V ⟨rfl,c⟩;have F:=hid c;obtain⟨v,b,j,f⟩:=G.out V c;clear c
 cases b
 ·have C:Hid (r=-1):=f;clear f;go_wp2_with fail;go_ret;exact⟨by rw[C.out];rfl,F.out⟩
 ·have C:Hid (r=v):=f;clear f;go_wp2_with fail;go_ret;exact⟨by rw[C.out];rfl,F.out⟩
theorem qu7{P:Value}(W:World)(i x:Int)(n:-1000<=x/\x<=1000)(b:Nat)(f:∀V,Below W.heap.size W V->Calls Tryz.prog 12 #[P] V fun e c=>e=.returned (.int .i64 (b:Int))/\c=V)(h:i<0\/(b:Int)<=i):
  Calls Tryz.prog 15 #[P,.int .i64 i,.int .i64 x] W fun e c=>e=.returned (.int .i64 (-1))/\Below W.heap.size W c:=by
 have d:=hid (qd1 W i b f h);unfold zSta at d
 have l:keyOf Tryz.prog 3 (.int .i64 x)=some (.int .i64 x):=Maps.keyOf_int_mk Tryz.underlying3 (by
  simp[Lit.wf,IntKind.min,IntKind.max,IntKind.bits,IntKind.signed]
  omega)
 have a:Hid (∀V:World,(Instr.lookup 72 (.map none) (.int .i64 x) true).run Tryz.prog V=.ok (.tuple #[.int .i64 0,.bool false]) V):=fun V=>Maps.look_nil true key3 u72 (Tryz.zeroValue3 V) l
 clear f h;have k:=qp7;go_enter Tryz.func15,Tryz.ntmps15;go_wp2_with fail;refine d.out.mono ?_;rintro e V ⟨rfl,g⟩;have j:=hid g;have m:=a.out V;clear g;go_wp2_with fail;go_ret;exact⟨rfl,j.out⟩
end Go.Proofs.YtbdogaaooeoccaaGreatDoor
