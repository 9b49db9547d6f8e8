/- Texts that the proof of FirstRules stands on beside those. -/
import Derived.Laws.Bits64b
import Derived.BigQuiet
import Derived.Test.YtngclmglmhiljaaGreatDoorPrf15
set_option maxHeartbeats 16000000
set_option maxRecDepth 100000
namespace Go.Proofs.YtngclmglmhiljaaGreatDoor
open Go.RowKit
theorem ub7{S:Sp}{i:Nat}{r:SR}{x a:Nat}(b:0<i)(f:S.rs[i]?=some r)(d:r.l=(x:Int))(h:FstL S r.r a):FstP S x a:=by
 obtain⟨u,y,v,c,g,j⟩:=h;exact FstP.rule i r x y a u v b f d c g j
theorem ua1{S:Sp}{E:Nat->Prop}(b:∀x,E x->Nul S x)(a:∀(i:Nat) (r:SR) (x:Nat),0<i->S.rs[i]?=some r->r.l=(x:Int)->(∀y∈r.r,E y)->E x)(x:Nat):E x↔Nul S x:=⟨b x,fun h=>h E a⟩
theorem ubq{S:Sp}{F:Nat->Nat->Prop}(c:∀x a,F x a->FstP S x a)(d:∀x,x<S.tk->F x x)(b:∀(i:Nat) (r:SR) (x y a:Nat) (u v:List Nat),0<i->S.rs[i]?=some r->r.l=(x:Int)->r.r=u++y :: v->(∀z∈u,Nul S z)->F y a->F x a)(x a:Nat):F x a↔FstP S x a:=⟨c x a,fun h=>h F d b⟩
theorem ubr{S:Sp}{F:Nat->Nat->Prop}(d:∀x a,F x a->FolP S x a)(f:F S.st S.tk)(b:∀(i:Nat) (r:SR) (x y a:Nat) (u v:List Nat),0<i->S.rs[i]?=some r->r.l=(x:Int)->r.r=u++y :: v->S.tk<y->FstL S v a->F y a)(c:∀(i:Nat) (r:SR) (x y a:Nat) (u v:List Nat),0<i->S.rs[i]?=some r->r.l=(x:Int)->r.r=u++y :: v->S.tk<y->(∀z∈v,Nul S z)->F x a->F y a)(x a:Nat):F x a↔FolP S x a:=⟨d x a,fun h=>h F f b c⟩
theorem FstL.lt{S:Sp}{l:List Nat}{a:Nat}(h:FstL S l a):a<S.tk:=by obtain⟨_,_,_,_,_,h⟩:=h;exact h.lt
theorem FolP.le{S:Sp}{x a:Nat}(h:FolP S x a):a<=S.tk:=h (fun _ a=>a<=S.tk) (Nat.le_refl _) (fun _ _ _ _ _ _ _ _ _ _ _ _ h=>Nat.le_of_lt h.lt) (fun _ _ _ _ _ _ _ _ _ _ _ _ _ h=>h)
theorem ub8(b:Nat->Bool)(k:Nat):(upTo b k).length<=k:=Nat.le_trans (List.length_filter_le _ _) (by simp)
def rq (q:QR):Array Value:=#[.int .i64 q.1.l,.slice q.2.1 q.1.r.length q.2.2,.int .i64 q.1.lv,.int .i64 q.1.a]
theorem uav(W:World)(c n b:Nat)(a:Option Addr)(x:Int)(c1:W.cell? ⟨c,1,none⟩=some (.slice a n b))(d:¬(0<=x/\x<(n:Int))):
  Calls Tryz.prog 23 #[.pointer (some ⟨c,0,none⟩),.int .i64 x] W fun e f=>e=.returned (.bool false)/\f=W:=by
 go_enter Tryz.func23,Tryz.ntmps23;go_wp2_with fail;refine(qbp W c n b _ c1 x).mono ?_;rintro e w1 ⟨rfl,rfl⟩
 have hd:decide (0<=x/\x<(n:Int))=false:=by simp only[decide_eq_false_iff_not];exact d
 rw[hd];go_wp2_with fail;go_ret;exact⟨rfl,rfl⟩
def wd (F:List Nat) (x:Nat):Nat:=(F[x]?).getD 0
def tb (F:List Nat) (x t:Nat):Bool:=(wd F x).testBit t
def ofW (E:List Bool) (F:List Nat):List Nat->Nat × Bool
 | []=>(0,true)
 | z :: l=>if isF E z then (wd F z ||| (ofW E F l).1,(ofW E F l).2) else (wd F z,false)
theorem uaj(E:List Bool)(F:List Nat):∀l:List Nat,(ofW E F l).2=true↔∀z∈l,isF E z=true
 | []=>by simp[ofW]
 | z :: l=>by
  have a:=uaj E F l;unfold ofW
  cases h:isF E z
  ·simp[h]
  ·simp[h,a]
theorem uat(E:List Bool)(F:List Nat)(t:Nat):∀l:List Nat,(ofW E F l).1.testBit t=true↔∃u y v,l=u++y :: v/\(∀z∈u,isF E z=true)/\tb F y t=true
 | []=>by
  simp[ofW]
 | z :: l=>by
  have i:=uat E F t l;have g:(wd F z).testBit t=tb F z t:=rfl;unfold ofW
  cases h:isF E z
  ·rw[if_neg (by simp),g]
   constructor
   ·intro f;exact⟨[],z,l,rfl,(fun w a=>by cases a),f⟩
   ·rintro⟨u,y,v,c,d,b⟩
    cases u with
    | nil=>cases c;exact b
    | cons w u=>cases c;have:=d z (by simp);rw[h]at this;cases this
  ·rw[if_pos rfl,Nat.testBit_or,Bool.or_eq_true,g,i]
   constructor
   ·rintro(f | ⟨u,y,v,rfl,d,b⟩)
    ·exact⟨[],z,l,rfl,(fun w a=>by cases a),f⟩
    ·refine⟨z :: u,y,v,rfl,fun w a=>?_,b⟩
     rcases List.mem_cons.1 a with rfl | a
     ·exact h
     ·exact d w a
   ·rintro⟨u,y,v,c,d,b⟩
    cases u with
    | nil=>cases c;exact .inl b
    | cons w u=>cases c;exact .inr ⟨u,y,v,rfl,(fun w a=>d w (List.mem_cons_of_mem _ a)),b⟩
theorem ual{a b:Nat}(c:a<2 ^ 64)(d:b<2 ^ 64):a ||| b<2 ^ 64:=Nat.or_lt_two_pow c d
theorem uaa{F:List Nat}(h:∀w∈F,w<2 ^ 64)(x:Nat):wd F x<2 ^ 64:=by
 unfold wd
 cases a:F[x]? with
 | none=>exact Nat.two_pow_pos 64
 | some w=>exact h w (List.mem_of_getElem? a)
theorem yr(E:List Bool){F:List Nat}(h:∀w∈F,w<2 ^ 64):∀l:List Nat,(ofW E F l).1<2 ^ 64
 | []=>Nat.two_pow_pos 64
 | z :: l=>by
  unfold ofW
  split
  ·exact ual (uaa h z) (yr E h l)
  ·exact uaa h z
theorem ub9{E:List Bool}{F:List Nat}{l:List Nat}{k z a:Nat}(f:l[k]?=some z)(d:isF E z=true)(h:a ||| (ofW E F (l.drop k)).1=(ofW E F l).1/\(ofW E F (l.drop k)).2=(ofW E F l).2):(a ||| wd F z) ||| (ofW E F (l.drop (k+1))).1=(ofW E F l).1/\(ofW E F (l.drop (k+1))).2=(ofW E F l).2:=by
 have hd:l.drop k=z :: l.drop (k+1):=by
  obtain⟨b,c⟩:=List.getElem?_eq_some_iff.1 f;rw[<-c];exact List.drop_eq_getElem_cons b
 have e:ofW E F (l.drop k)=(wd F z ||| (ofW E F (l.drop (k+1))).1,(ofW E F (l.drop (k+1))).2):=by
  rw[hd];show(if isF E z then _ else _)=_;rw[if_pos d]
 rw[e]at h;rw[Nat.or_assoc];exact h
theorem uch{E:List Bool}{F:List Nat}{l:List Nat}{k z a:Nat}(f:l[k]?=some z)(d:isF E z=false)(h:a ||| (ofW E F (l.drop k)).1=(ofW E F l).1/\(ofW E F (l.drop k)).2=(ofW E F l).2):a ||| wd F z=(ofW E F l).1/\false=(ofW E F l).2:=by
 have hd:l.drop k=z :: l.drop (k+1):=by
  obtain⟨b,c⟩:=List.getElem?_eq_some_iff.1 f;rw[<-c];exact List.drop_eq_getElem_cons b
 have e:ofW E F (l.drop k)=(wd F z,false):=by
  rw[hd];show(if isF E z then _ else _)=_;rw[if_neg (by rw[d];simp)]
 rw[e]at h;exact h
theorem ua6{F:List Nat}{x w:Nat}(a:x<F.length)(y:Nat):wd (F.set x w) y=if y=x then w else wd F y:=by
 unfold wd;rw[List.getElem?_set]
 by_cases h:x=y
 ·subst h;simp[a]
 ·rw[if_neg h,if_neg (fun e=>h e.symm)]
theorem ucg{F:List Nat}{x:Nat}(a:x<F.length):F[x]?=some (wd F x):=by
 unfold wd;rw[List.getElem?_eq_getElem a];rfl
theorem ua7{F:List Nat}{x:Nat}(a:x<F.length):F.set x (wd F x)=F:=by
 apply List.ext_getElem?
 intro i;rw[List.getElem?_set]
 split
 ·subst_vars
  exact(ucg a).symm
 ·rfl
theorem uam{E:List Bool}{x:Nat}(a:x<E.length):E.set x (isF E x)=E:=by
 apply List.ext_getElem?
 intro i;rw[List.getElem?_set]
 split
 ·subst_vars
  exact(vm a).symm
 ·rfl
theorem ua5{F:List Nat}{x v:Nat}(c:x<F.length)(y t:Nat):tb (F.set x (wd F x ||| v)) y t=true↔tb F y t=true\/(y=x/\v.testBit t=true):=by
 unfold tb;rw[ua6 c]
 by_cases h:y=x
 ·subst h;rw[if_pos rfl,Nat.testBit_or,Bool.or_eq_true];exact or_congr Iff.rfl ⟨fun h=>⟨rfl,h⟩,fun h=>h.2⟩
 ·rw[if_neg h];exact⟨.inl,fun a=>a.elim id (fun b=>absurd b.1 h)⟩
theorem ubg{a b:Nat}(h:a ||| b=a)(t:Nat)(c:b.testBit t=true):a.testBit t=true:=by
 rw[<-h,Nat.testBit_or,c,Bool.or_true]
def xp (w:Nat):Nat:=(List.range 64).countP (fun t=>!w.testBit t)
def zbs (F:List Nat):Nat:=(F.map xp).sum
theorem uct(w v:Nat):xp (w ||| v)<=xp w:=by
 refine List.countP_mono_left (fun t _ h=>?_);rw[Nat.testBit_or]at h
 cases a:w.testBit t
 ·rfl
 ·rw[a]at h;simp at h
theorem ubh{w v:Nat}(m:w<2 ^ 64)(u:v<2 ^ 64)(h:w ||| v≠w):xp (w ||| v)<xp w:=by
 obtain⟨t,f⟩:∃t,(w ||| v).testBit t≠w.testBit t:=by
  apply Classical.byContradiction
  intro s;exact h (Nat.eq_of_testBit_eq (fun t=>Classical.byContradiction (fun b=>s ⟨t,b⟩)))
 have d:w.testBit t=false:=by
  cases j:w.testBit t
  ·rfl
  ·rw[Nat.testBit_or,j,Bool.true_or]at f;exact absurd rfl f
 have c:(w ||| v).testBit t=true:=by
  cases j:(w ||| v).testBit t
  ·rw[j,d]at f;exact absurd rfl f
  ·rfl
 have k:t<64:=by
  rcases Nat.lt_or_ge t 64 with b | b
  ·exact b
  ·rw[Nat.testBit_lt_two_pow (Nat.lt_of_lt_of_le (ual m u) (Nat.pow_le_pow_right (by decide) b))]at c
   cases c
 have n:∀l:List Nat,t∈l->l.countP (fun t=>!(w ||| v).testBit t)<l.countP (fun t=>!w.testBit t):=by
  intro l
  induction l with
  | nil=>intro h;cases h
  | cons a l ih =>
   intro r
   have q:l.countP (fun t=>!(w ||| v).testBit t)<=l.countP (fun t=>!w.testBit t):=by
    refine List.countP_mono_left (fun t _ h=>?_);rw[Nat.testBit_or]at h
    cases m:w.testBit t
    ·rfl
    ·rw[m]at h;simp at h
   by_cases o:a=t
   ·subst o;rw[List.countP_cons,List.countP_cons,d,c];rw[if_neg (by decide),if_pos (by decide)];omega
   ·have i:t∈l:=by
     rcases List.mem_cons.1 r with b | b
     ·exact absurd b.symm o
     ·exact b
    have:=ih i
    have p:(!(w ||| v).testBit a)=true->(!w.testBit a)=true:=by
     rw[Nat.testBit_or]
     cases w.testBit a <;> simp
    rw[List.countP_cons,List.countP_cons]
    by_cases g:(!(w ||| v).testBit a)=true
    ·rw[if_pos g,if_pos (p g)];omega
    ·rw[if_neg g]
     split <;> omega
 exact n _ (List.mem_range.2 k)
theorem uax:∀{F:List Nat} {x v:Nat},x<F.length->zbs (F.set x v)+xp (wd F x)=zbs F+xp v
 | [],_,_,h=>absurd h (Nat.not_lt_zero _)
 | w :: F,0,v,_=>by
  simp[zbs,wd];omega
 | w :: F,x+1,v,h=>by
  have a:=uax (F:=F) (x:=x) (v:=v) (by simpa using h);simp only[zbs,List.set_cons_succ,List.map_cons,List.sum_cons,wd,List.getElem?_cons_succ]at a ⊢;omega
def zE (E:List Bool):Nat:=E.countP (fun b=>!b)
theorem ua8:∀{E:List Bool} {x:Nat},x<E.length->isF E x=false->zE (E.set x true)+1=zE E
 | [],_,h,_=>absurd h (Nat.not_lt_zero _)
 | b :: E,0,_,hf=>by
  have:b=false:=by simpa [isF] using hf
  subst this;simp[zE]
 | b :: E,x+1,h,hf=>by
  have a:=ua8 (E:=E) (x:=x) (by simpa using h) (by simpa [isF] using hf);simp only[zE,List.set_cons_succ,List.countP_cons]at a ⊢;omega
structure TF (S:Sp) (n:Nat) (E:List Bool) (F:List Nat):Prop where
 el:E.length=n
 fl:F.length=n
 lt:∀w∈F,w<2 ^ 64
 es:∀x,isF E x=true->Nul S x
 fs:∀x t,tb F x t=true->FstP S x t
 tok:∀x,x<S.tk->tb F x x=true
def Cl1 (S:Sp) (E:List Bool) (F:List Nat) (j:Nat):Prop:=∀(r:SR) (x:Nat),S.rs[j]?=some r->r.l=(x:Int)->((ofW E F r.r).2=true->isF E x=true)/\∀t,(ofW E F r.r).1.testBit t=true->tb F x t=true
theorem TF.fstL{S:Sp}{n:Nat}{E:List Bool}{F:List Nat}(h:TF S n E F){l:List Nat}{t:Nat}(b:(ofW E F l).1.testBit t=true):FstL S l t:=by
 obtain⟨u,y,v,a,c,d⟩:=(uat E F t l).1 b;exact⟨u,y,v,a,fun z f=>h.es z (c z f),h.fs y t d⟩
def yp (E:List Bool) (x:Nat) (b:Bool):List Bool:=E.set x (isF E x || b)
def vu (F:List Nat) (x v:Nat):List Nat:=F.set x (wd F x ||| v)
theorem ubi{F:List Nat}{x v:Nat}(h:∀w∈F,w<2 ^ 64)(a:v<2 ^ 64):∀w∈vu F x v,w<2 ^ 64:=by
 intro w b
 rcases List.mem_or_eq_of_mem_set b with h1 | rfl
 ·exact h w h1
 ·exact ual (uaa h x) a
theorem uca{E:List Bool}{x:Nat}{b:Bool}(d:x<E.length)(y:Nat):isF (yp E x b) y=true↔isF E y=true\/(y=x/\b=true):=by
 unfold yp isF;rw[List.getElem?_set]
 by_cases h:x=y
 ·subst h;rw[if_pos rfl,if_pos d];simp
 ·rw[if_neg h];exact⟨.inl,fun a=>a.elim id (fun c=>absurd c.1.symm h)⟩
theorem TF.add{S:Sp}{n i x:Nat}{r:SR}{E:List Bool}{F:List Nat}(h:TF S n E F)(f:0<i)(g:S.rs[i]?=some r)(j:r.l=(x:Int))(b:x<n):TF S n (yp E x (ofW E F r.r).2) (vu F x (ofW E F r.r).1):=by
 have d:x<E.length:=by rw[h.el];exact b
 have a:x<F.length:=by rw[h.fl];exact b
 refine⟨by unfold yp;rw[List.length_set];exact h.el,by unfold vu;rw[List.length_set];exact h.fl,ubi h.lt (yr E h.lt _),fun y c=>?_,fun y t c=>?_,fun y c=>(ua5 a _ _).2 (.inl (h.tok y c))⟩
 ·rcases (uca d y).1 c with h1 | ⟨rfl,h1⟩
  ·exact h.es y h1
  ·exact Nul.rule i r y f g j (fun z k=>h.es z ((uaj E F r.r).1 h1 z k))
 ·rcases (ua5 a y t).1 c with h1 | ⟨rfl,h1⟩
  ·exact h.fs y t h1
  ·exact ub7 f g j (h.fstL h1)
theorem TF.same{S:Sp}{n i x:Nat}{r:SR}{E:List Bool}{F:List Nat}(h:TF S n E F)(k:S.rs[i]?=some r)(o:r.l=(x:Int))(a:x<n)(d:wd F x ||| (ofW E F r.r).1=wd F x)(f:(ofW E F r.r).2=true->isF E x=true):yp E x (ofW E F r.r).2=E/\vu F x (ofW E F r.r).1=F/\Cl1 S E F i:=by
 have b:x<E.length:=by rw[h.el];exact a
 have c:x<F.length:=by rw[h.fl];exact a
 refine⟨?_,?_,fun q y g p=>?_⟩
 ·unfold yp
  have:(isF E x || (ofW E F r.r).2)=isF E x:=by
   cases j:(ofW E F r.r).2
   ·simp
   ·rw[f j];rfl
  rw[this];exact uam b
 ·unfold vu;rw[d];exact ua7 c
 ·rw[k]at g
  cases g
  rw[o]at p
  have:x=y:=by omega
  subst this;exact⟨f,fun t m=>ubg d t m⟩
theorem TF.less{S:Sp}{n x:Nat}{r:SR}{E:List Bool}{F:List Nat}(h:TF S n E F)(c:x<n)(b:wd F x ||| (ofW E F r.r).1≠wd F x\/((ofW E F r.r).2=true/\isF E x=false)):zE (yp E x (ofW E F r.r).2)+zbs (vu F x (ofW E F r.r).1)<zE E+zbs F:=by
 have a:x<E.length:=by rw[h.el];exact c
 have g:x<F.length:=by rw[h.fl];exact c
 have i:=uax (F:=F) (x:=x) (v:=wd F x ||| (ofW E F r.r).1) g;have j:=uct (wd F x) (ofW E F r.r).1
 have d:zE (yp E x (ofW E F r.r).2)<=zE E:=by
  unfold yp
  cases f:isF E x
  ·cases b:(ofW E F r.r).2
   ·simp only[Bool.or_self];have:=uam a;rw[f]at this;rw[this];exact Nat.le_refl _
   ·have:=ua8 a f;simp;omega
  ·simp only[Bool.true_or];have:=uam a;rw[f]at this;rw[this];exact Nat.le_refl _
 unfold vu
 rcases b with b | ⟨b,hd⟩
 ·have:=ubh (uaa h.lt x) (yr E h.lt r.r) b;omega
 ·have:=ua8 a hd;unfold yp at d ⊢;rw[b,hd]at d ⊢;simp at d ⊢;omega
theorem TF.le{S:Sp}{n x:Nat}{r:SR}{E:List Bool}{F:List Nat}(h:TF S n E F)(a:x<n):zE (yp E x (ofW E F r.r).2)+zbs (vu F x (ofW E F r.r).1)<=zE E+zbs F:=by
 by_cases c:wd F x ||| (ofW E F r.r).1≠wd F x\/((ofW E F r.r).2=true/\isF E x=false)
 ·exact Nat.le_of_lt (h.less a c)
 ·have d:x<E.length:=by rw[h.el];exact a
  have f:x<F.length:=by rw[h.fl];exact a
  have b:wd F x ||| (ofW E F r.r).1=wd F x:=Classical.byContradiction (fun b=>c (.inl b))
  have g:(isF E x || (ofW E F r.r).2)=isF E x:=by
   cases i:(ofW E F r.r).2
   ·simp
   ·cases hd:isF E x
    ·exact absurd (.inr ⟨i,hd⟩) c
    ·rfl
  unfold yp vu;rw[b,g,ua7 f,uam d];exact Nat.le_refl _
theorem TF.done{S:Sp}{n:Nat}{E:List Bool}{F:List Nat}(h:TF S n E F)(g:∀j,0<j->j<S.rs.length->Cl1 S E F j):(∀x,isF E x=true↔Nul S x)/\∀x t,tb F x t=true↔FstP S x t:=by
 refine⟨ua1 h.es (fun i r x c b d f=>?_),ubq h.fs h.tok (fun i r x y a u v c b d l m f=>?_)⟩
 ·exact(g i c (List.getElem?_eq_some_iff.1 b).1 r x b d).1 ((uaj E F r.r).2 f)
 ·have k:∀x,isF E x=true↔Nul S x:=ua1 h.es (fun i r x c b d f=>(g i c (List.getElem?_eq_some_iff.1 b).1 r x b d).1 ((uaj E F r.r).2 f));refine(g i c (List.getElem?_eq_some_iff.1 b).1 r x b d).2 a ((uat E F a r.r).2 ⟨u,y,v,l,fun z o=>(k z).2 (m z o),f⟩)
theorem ua9{S:Sp}{E:List Bool}{F:List Nat}(h:(∀x,isF E x=true↔Nul S x)/\∀x t,tb F x t=true↔FstP S x t)(l:List Nat):((ofW E F l).2=true↔∀z∈l,Nul S z)/\∀t,(ofW E F l).1.testBit t=true↔FstL S l t:=by
 constructor
 ·rw[uaj];exact⟨fun k z a=>(h.1 z).1 (k z a),fun k z a=>(h.1 z).2 (k z a)⟩
 ·intro t;rw[uat]
  constructor
  ·rintro⟨u,y,v,b,c,d⟩;exact⟨u,y,v,b,fun z a=>(h.1 z).1 (c z a),(h.2 y t).1 d⟩
  ·rintro⟨u,y,v,b,c,d⟩;exact⟨u,y,v,b,fun z a=>(h.1 z).2 (c z a),(h.2 y t).2 d⟩
structure TG (S:Sp) (n:Nat) (G:List Nat):Prop where
 gl:G.length=n
 lt:∀w∈G,w<2 ^ 64
 gs:∀x t,tb G x t=true->FolP S x t
 st:tb G S.st S.tk=true
def uan (E:List Bool) (F G:List Nat) (x:Nat) (v:List Nat):Nat:=if (ofW E F v).2 then (ofW E F v).1 ||| wd G x else (ofW E F v).1
theorem uay{E:List Bool}{F G:List Nat}(a:∀w∈F,w<2 ^ 64)(b:∀w∈G,w<2 ^ 64)(x:Nat)(v:List Nat):uan E F G x v<2 ^ 64:=by
 unfold uan
 split
 ·exact ual (yr E a v) (uaa b x)
 ·exact yr E a v
theorem uba{S:Sp}{E:List Bool}{F G:List Nat}(h:(∀x,isF E x=true↔Nul S x)/\∀x t,tb F x t=true↔FstP S x t)(x:Nat)(v:List Nat)(t:Nat):(uan E F G x v).testBit t=true↔FstL S v t\/((∀z∈v,Nul S z)/\tb G x t=true):=by
 obtain⟨b,c⟩:=ua9 h v;have d:(wd G x).testBit t=tb G x t:=rfl;unfold uan
 cases a:(ofW E F v).2
 ·rw[if_neg (by simp),c];refine⟨.inl,fun k=>k.elim id (fun k=>?_)⟩;rw[b.2 k.1]at a
  cases a
 ·rw[if_pos rfl,Nat.testBit_or,Bool.or_eq_true,c,d];have:=b.1 a;exact or_congr Iff.rfl ⟨fun k=>⟨this,k⟩,fun k=>k.2⟩
def Cl2 (S:Sp) (E:List Bool) (F G:List Nat) (j k:Nat):Prop:=∀(r:SR) (x y:Nat),S.rs[j]?=some r->r.l=(x:Int)->r.r[k]?=some y->S.tk<y->∀t,(uan E F G x (r.r.drop (k+1))).testBit t=true->tb G y t=true
theorem TG.add{S:Sp}{n i x y k:Nat}{r:SR}{E:List Bool}{F G:List Nat}(h:TG S n G)(p:∀w∈F,w<2 ^ 64)(q:(∀x,isF E x=true↔Nul S x)/\∀x t,tb F x t=true↔FstP S x t)(g:0<i)(m:S.rs[i]?=some r)(o:r.l=(x:Int))(s:r.r[k]?=some y)(d:S.tk<y)(f:y<n):TG S n (vu G y (uan E F G x (r.r.drop (k+1)))):=by
 have c:y<G.length:=by rw[h.gl];exact f
 have j:r.r=r.r.take k++y :: r.r.drop (k+1):=by
  obtain⟨a,b⟩:=List.getElem?_eq_some_iff.1 s;rw[<-b,<-List.drop_eq_getElem_cons a,List.take_append_drop]
 refine⟨by unfold vu;rw[List.length_set];exact h.gl,ubi h.lt (uay p h.lt _ _),fun z t u=>?_,(ua5 c _ _).2 (.inl h.st)⟩
 rcases (ua5 c z t).1 u with a | ⟨rfl,a⟩
 ·exact h.gs z t a
 ·rcases (uba q x _ t).1 a with b | ⟨b,h3⟩
  ·exact FolP.first i r x z t _ _ g m o j d b
  ·exact FolP.last i r x z t _ _ g m o j d b (h.gs x t h3)
theorem TG.less{S:Sp}{n y v:Nat}{G:List Nat}(h:TG S n G)(b:y<n)(d:v<2 ^ 64)(c:wd G y ||| v≠wd G y):zbs (vu G y v)<zbs G:=by
 have a:y<G.length:=by rw[h.gl];exact b
 have f:=uax (F:=G) (x:=y) (v:=wd G y ||| v) a;have:=ubh (uaa h.lt y) d c;unfold vu;omega
theorem ubb{S:Sp}{i x y k:Nat}{r:SR}{E:List Bool}{F G:List Nat}(j:S.rs[i]?=some r)(n:r.l=(x:Int))(o:r.r[k]?=some y)(g:S.tk<y->wd G y ||| uan E F G x (r.r.drop (k+1))=wd G y):Cl2 S E F G i k:=by
 intro q a b f h d c t m;rw[j]at f
 cases f
 rw[n]at h
 have:x=a:=by omega
 subst this;rw[o]at d
 cases d
 exact ubg (g c) t m
theorem TG.done{S:Sp}{n:Nat}{E:List Bool}{F G:List Nat}(h:TG S n G)(A:(∀x,isF E x=true↔Nul S x)/\∀x t,tb F x t=true↔FstP S x t)(B:∀(j k:Nat) (r:SR),0<j->S.rs[j]?=some r->k<r.r.length->Cl2 S E F G j k):∀x t,tb G x t=true↔FolP S x t:=by
 have m:∀(i:Nat) (r:SR) (x y t:Nat) (u v:List Nat),0<i->S.rs[i]?=some r->r.l=(x:Int)->r.r=u++y :: v->S.tk<y->FstL S v t\/((∀z∈v,Nul S z)/\tb G x t=true)->tb G y t=true:=by
  intro i r x y t u v d c f b g C
  have q:r.r[u.length]?=some y:=by rw[b,List.getElem?_append_right (Nat.le_refl _),Nat.sub_self];rfl
  have s:r.r.drop (u.length+1)=v:=by
   rw[b,List.drop_append,List.drop_eq_nil_of_le (by omega)]
   have:u.length+1 - u.length=1:=by omega
   rw[this];rfl
  have p:=B i u.length r d c (by rw[b];simp) r x y c f q g t
  rw[s]at p;exact p ((uba A x v t).2 C)
 exact ubr h.gs h.st (fun i r x y a u v d c f b g o=>m i r x y a u v d c f b g (.inl o)) (fun i r x y a u v d c f b g D o=>m i r x y a u v d c f b g (.inr ⟨D,o⟩))
def u6C (F:List Nat):List Value:=F.map fun(u:Nat)=>Value.int .u64 (u:Int)
theorem ubk(F:List Nat):(u6C F).length=F.length:=by unfold u6C;rw[List.length_map]
theorem uco{F:List Nat}{x:Nat}(a:x<F.length):(u6C F)[x]?=some (.int .u64 (wd F x:Int)):=by
 unfold u6C;rw[List.getElem?_map,ucg a];rfl
theorem uap{a:Nat}(h:a<2 ^ 64):a<18446744073709551616:=h
theorem ucb{i:Nat}(c:i<64):IntKind.u64.wrap ((2:Int) ^ i)=((2 ^ i:Nat):Int):=by
 have a:(2 ^ i:Nat)<18446744073709551616:=Nat.pow_lt_pow_right (by decide) (by omega:i<64)
 have b:(2:Int) ^ i=((2 ^ i:Nat):Int):=by simp
 rw[IntKind.wrap_u64,b];generalize 2 ^ i=q at a;omega
theorem uaq(W:World)(i:Nat)(a:i<64):Calls Tryz.prog 55 #[.int .i64 (i:Int)] W fun e b=>e=.returned (.int .u64 ((2 ^ i:Nat):Int))/\b=W:=by
 have c:IntKind.u64.wrap (i:Int)=(i:Int):=by rw[IntKind.wrap_u64];omega
 have d:=ucb a;go_enter Tryz.func55,Tryz.ntmps55;go_wp2_with fail;go_ret;exact⟨by simp,rfl⟩
theorem ubs(u k:Nat):(u / 2 ^ k) % 2=if u.testBit k then 1 else 0:=by
 rw[<-Nat.shiftRight_eq_div_pow,<-Nat.and_one_is_mod];unfold Nat.testBit;rw[Nat.and_comm]
 rcases Nat.mod_two_eq_zero_or_one (u >>> k) with h | h
 ·rw[Nat.one_and_eq_mod_two,h];rfl
 ·rw[Nat.one_and_eq_mod_two,h];rfl
theorem ubt(W:World)(u k:Nat)(d:u<2 ^ 64)(i:k<64):Calls Tryz.prog 57 #[.int .u64 (u:Int),.int .i64 (k:Int)] W fun e f=>e=.returned (.bool (u.testBit k))/\f=W:=by
 have g:IntKind.u64.wrap (k:Int)=(k:Int):=by rw[IntKind.wrap_u64];omega
 have b:u / 2 ^ k<18446744073709551616:=Nat.lt_of_le_of_lt (Nat.div_le_self _ _) d
 have h:bits .and .u64 ((u:Int) / 2 ^ k) 1=(((u / 2 ^ k) % 2:Nat):Int):=by
  have:=bits_and_u64_nat (u / 2 ^ k) 1 b (by decide);rw[Nat.and_one_is_mod]at this
  simpa using this
 have j:((u:Int) / 2 ^ k % 2 == 1)=u.testBit k:=by
  have c:(u:Int) / 2 ^ k % 2=(((u / 2 ^ k) % 2:Nat):Int):=by simp
  rw[c,ubs]
  cases u.testBit k <;> rfl
 have a:(k:Int)<64:=by omega
 go_enter Tryz.func57,Tryz.ntmps57;go_wp2_with fail;go_ret;exact⟨by simp,rfl⟩
structure WL8 (W wr:World) (u k:Nat) (la:Option Addr) (lc:Nat):Prop where
 bel:Below W.heap.size W wr
 own:wr.ownsRow W.heap.size 3 1 (.slice la (upTo (fun t=>u.testBit t) k).length lc) (upTo (fun t=>u.testBit t) k).length (natC (upTo (fun t=>u.testBit t) k))
theorem uao(W:World)(u:Nat)(E:u<2 ^ 64):Calls Tryz.prog 36 #[.int .u64 (u:Int)] W fun e x=>∃i f,e=.returned (.slice i (upTo (fun t=>u.testBit t) 64).length f)/\x.ownsRow W.heap.size 3 1 (.slice i (upTo (fun t=>u.testBit t) 64).length f) (upTo (fun t=>u.testBit t) 64).length (natC (upTo (fun t=>u.testBit t) 64))/\Below W.heap.size W x:=by
 have B:Hid (WL8 W W u 0 none 0):=⟨Below.refl _ _,World.ownsRow_nil _ _ _ _⟩
 have A:Hid (∀(V:World) (k:Nat),k<64->Calls Tryz.prog 57 #[.int .u64 (u:Int),.int .i64 (k:Int)] V fun e x=>e=.returned (.bool (u.testBit k))/\x=V):=fun V k C=>ubt V u k E C
 clear E;go_enter Tryz.func36,Tryz.ntmps36;go_wp2_with fail
 go_loopg [4,3] 64 (fun kx s4 s3 wr=>∃(k:Nat) (i:Option Addr) (f j:Nat),s4=.int .i64 k/\s3=.slice i j f/\k<=64/\j<=k/\j<=f/\f<=9223372036854775807/\64 - k<=kx/\Hid (j=(upTo (fun t=>u.testBit t) k).length/\WL8 W wr u k i f))
 case atStart=>exact⟨0,none,0,0,rfl,rfl,by omega,Nat.le_refl _,Nat.le_refl _,by omega,by omega,(⟨rfl,B.out⟩:0=(upTo (fun t=>u.testBit t) 0).length/\WL8 W W u 0 none 0)⟩
 case round =>
  clear B;obtain⟨k,i,f,j,rfl,rfl,C,G,o,p,H,J⟩:=hrel
  by_cases q:k<64
  ·have D:(k:Int)<64:=by omega
   obtain⟨b,y⟩:=J.out;have a:=qnr (fun t=>u.testBit t) k;obtain⟨g,c,F,h,r,-,z⟩:=ql7 y.own y.bel.size (by have:=ub8 (fun t=>u.testBit t) k;omega) k
   rw[<-b]at h r;have l:=z8 r
   cases d:u.testBit k
   ·simp only[d]at a;rw[if_neg (by decide)]at a
    have m:Hid (j=(upTo (fun t=>u.testBit t) (k+1)).length/\WL8 W wr u (k+1) i f):=by
     refine⟨by rw[a];exact b,y.bel,?_⟩
     rw[a];exact y.own
    clear y J r a b z h l;go_wp2_with fail;refine(A.out wr k q).mono ?_;rintro e w1 ⟨rfl,rfl⟩;rw[d];clear d;go_wp2_with fail;go_roundg (64 - (k+1))
    case measure=>omega
    case rel=>exact⟨k+1,i,f,j,by simp,rfl,by omega,by omega,o,p,Nat.le_refl _,m⟩
   ·simp only[d]at a;rw[if_pos trivial]at a
    have m:Hid (j+1=(upTo (fun t=>u.testBit t) (k+1)).length/\WL8 W F u (k+1) (some ⟨g,0,none⟩) c):=by
     refine⟨by rw[a,List.length_append,<-b];rfl,y.bel.trans z,?_⟩
     rw[a,List.length_append,<-b];exact r
    clear y J r a b z;go_wp2_with fail;refine(A.out wr k q).mono ?_;rintro e w1 ⟨rfl,rfl⟩;rw[d];clear d;go_wp2_with(at_builtin;refine Lib.wpList_append_run _ rfl _ _ _ _ rfl _ _ rfl rfl _ _ h ?_)
    go_roundg (64 - (k+1))
    case measure=>omega
    case rel=>exact⟨k+1,some ⟨g,0,none⟩,c,j+1,by simp,by simp,by omega,by omega,l.1,l.2,Nat.le_refl _,m⟩
  ·have n:k=64:=by omega
   subst n;obtain⟨b,y⟩:=J.out
   have m:Hid (∃(s:Option Addr) (v:Nat),Ending.returned (.slice i j f)=Ending.returned (.slice s (upTo (fun t=>u.testBit t) 64).length v)/\wr.ownsRow W.heap.size 3 1 (.slice s (upTo (fun t=>u.testBit t) 64).length v) (upTo (fun t=>u.testBit t) 64).length (natC (upTo (fun t=>u.testBit t) 64))/\Below W.heap.size W wr):=⟨i,f,by rw[b],y.own,y.bel⟩
   clear y J b;go_wp2_with fail;go_ret;exact m.out
structure RP8 where
 eb:Nat
 fb:Nat
 gb:Nat
structure RT8 (W:World) (B rb:Nat) (p:RP8) (h:SHd) (S:Sp) (n:Nat) (E:List Bool) (F G:List Nat):Prop where
 box:W.heap[rb]?=some (.cells #[.int .i64 (S.tk:Int),.int .i64 (S.nt:Int),.int .i64 (S.st:Int),.int .i64 S.ex,.slice h.na S.nm.length h.nc,.slice h.la S.lv.length h.lc,.slice h.aa S.az.length h.ac,.slice h.ra S.rs.length h.rc,.slice (some ⟨p.eb,0,none⟩) n n,.slice (some ⟨p.fb,0,none⟩) n n,.slice (some ⟨p.gb,0,none⟩) n n] 72 (0,0))
 new:B<=rb
 emp:W.ownsRow B 4 1 (.slice (some ⟨p.eb,0,none⟩) n n) n (booC E)
 fst:W.ownsRow B 74 1 (.slice (some ⟨p.fb,0,none⟩) n n) n (u6C F)
 fol:W.ownsRow B 74 1 (.slice (some ⟨p.gb,0,none⟩) n n) n (u6C G)
 ne:p.fb≠p.gb
theorem RT8.below{W b:World}{B c:Nat}{p:RP8}{h:SHd}{S:Sp}{n:Nat}{E:List Bool}{F G:List Nat}(r:RT8 W B c p h S n E F G)(a:Below W.heap.size W b):RT8 b B c p h S n E F G:=⟨qf a r.box,r.new,zw r.emp a,zw r.fst a,zw r.fol a,r.ne⟩
theorem RT8.cells{W:World}{B a:Nat}{p:RP8}{h:SHd}{S:Sp}{n:Nat}{E:List Bool}{F G:List Nat}(r:RT8 W B a p h S n E F G):W.cell? ⟨a,8,none⟩=some (.slice (some ⟨p.eb,0,none⟩) n n)/\W.cell? ⟨a,9,none⟩=some (.slice (some ⟨p.fb,0,none⟩) n n)/\W.cell? ⟨a,10,none⟩=some (.slice (some ⟨p.gb,0,none⟩) n n):=⟨by rw[qe r.box];rfl,by rw[qe r.box];rfl,by rw[qe r.box];rfl⟩
theorem uab{W:World}{B g n:Nat}{F:List Nat}(h:W.ownsRow B 74 1 (.slice (some ⟨g,0,none⟩) n n) n (u6C F)){x:Nat}(b:x<n):W.cell? ⟨g,x,none⟩=some (.int .u64 (wd F x:Int)):=by
 have a:=h.1;rw[ubk]at a;rw[h.cellAt x (by omega)];exact uco (by omega)
theorem uai(W:World)(B O:Nat)(p:RP8)(h:SHd)(S:Sp)(n:Nat)(E:List Bool)(F G:List Nat)(r:RT8 W B O p h S n E F G)(P:∀w∈F,w<2 ^ 64)(l:List Nat)(a:Option Addr)(m c:Nat)(R:l.length=m)(Z:m<=1000)(f:Row W 1 a m c (natC l))(Q:∀z∈l,z<n):
  Calls Tryz.prog 56 #[.pointer (some ⟨O,0,none⟩),.slice a m c] W fun e w'=>e=.returned (.tuple #[.int .u64 ((ofW E F l).1:Int),.bool (ofW E F l).2])/\Below W.heap.size W w':=by
 have i:Hid (RT8 W B O p h S n E F G/\(∀w∈F,w<2 ^ 64)/\(∀z∈l,z<n)/\Row W 1 a m c (natC l)/\l.length=m):=⟨r,P,Q,f,R⟩
 have hc:=ze f;clear r P Q f R;go_enter Tryz.func56,Tryz.ntmps56;go_wp2_with fail
 go_loopg [7,6] m (fun kx s7 s6 wr=>∃k d:Nat,s7=.int .i64 k/\s6=.int .u64 (d:Int)/\k<=m/\d<18446744073709551616/\m - k<=kx/\Hid (Below W.heap.size W wr/\d ||| (ofW E F (l.drop k)).1=(ofW E F l).1/\(ofW E F (l.drop k)).2=(ofW E F l).2))
 case atStart=>exact⟨0,0,rfl,rfl,Nat.zero_le _,by omega,by omega,(⟨Below.refl _ _,by rw[List.drop_zero,Nat.zero_or],by rw[List.drop_zero]⟩:Below W.heap.size W W/\0 ||| (ofW E F (l.drop 0)).1=(ofW E F l).1/\(ofW E F (l.drop 0)).2=(ofW E F l).2)⟩
 case round =>
  obtain⟨k,d,rfl,rfl,hk,g,hg,J⟩:=hrel
  by_cases M:k<m
  ·have u:(k:Int)<(m:Int):=by omega
   obtain⟨z,D⟩:∃z,l[k]?=some z:=⟨l[k]'(by rw[i.out.2.2.2.2];exact M),List.getElem?_eq_getElem _⟩
   have A:=i.out.2.2.1 z (List.mem_of_getElem? D)
   have T:(z:Int)<(n:Int):=by omega
   obtain⟨b,o,rfl,cz⟩:=vj (i.out.2.2.2.1.below J.out.1) D;have H:=i.out.1.below J.out.1;obtain⟨c8,c9,-⟩:=H.cells;have ce:=qrm H.emp A;have cf:=uab H.fst A;have y:=uap (uaa i.out.2.1 z);have a0:=bits_or_u64_nat d (wd F z) g y
   have x:d ||| wd F z<18446744073709551616:=ual g y
   have C:Hid (l[k]?=some z):=D
   have U:Hid (∀q N,Below W.heap.size W ((wr.drewN q).drewN N)):=fun q N=>yh (yh J.out.1 q) N
   have I:Hid (∀q,Below W.heap.size W (wr.drewN q)):=fun q=>yh J.out.1 q
   have mx:=qay;clear H D
   cases j:isF E z
   ·rw[j]at ce
    have s:Hid (Ending.returned (.tuple #[.int .u64 ((d ||| wd F z:Nat):Int),.bool false])=Ending.returned (.tuple #[.int .u64 ((ofW E F l).1:Int),.bool (ofW E F l).2])):=by
     show _=_;obtain⟨K,t⟩:=uch C.out j J.out.2;rw[K,<-t]
    clear J j C
    go_upto_region 5 with fail
    go_quiet (fail)
    go_upto_region 6 with fail
    go_quiet (fail);go_wp2_with fail;refine bodyPost_ret (v:=.tuple #[.int .u64 ((d ||| wd F z:Nat):Int),.bool false]) (by simp[results,Tryz.results56,go_sem]) rfl ?_;exact⟨s.out,U.out _ _⟩
   ·rw[j]at ce;have s:Hid ((d ||| wd F z) ||| (ofW E F (l.drop (k+1))).1=(ofW E F l).1/\(ofW E F (l.drop (k+1))).2=(ofW E F l).2):=ub9 C.out j J.out.2;clear J j C
    go_upto_region 5 with fail
    go_quiet (fail)
    go_upto_region 6 with fail
    go_quiet (fail);go_wp2_with fail;go_roundg (m - (k+1))
    case measure=>omega
    case rel=>exact⟨k+1,d ||| wd F z,by simp,rfl,by omega,x,Nat.le_refl _,(⟨I.out _,s.out⟩:Below W.heap.size W (wr.drewN _)/\_)⟩
  ·have u:¬(k:Int)<(m:Int):=by omega
   have s:Hid (Ending.returned (.tuple #[.int .u64 (d:Int),.bool true])=Ending.returned (.tuple #[.int .u64 ((ofW E F l).1:Int),.bool (ofW E F l).2])/\Below W.heap.size W wr):=by
    have Y:k=m:=by omega
    obtain⟨K,t,L⟩:=J.out;have hd:l.drop k=[]:=List.drop_eq_nil_of_le (by rw[i.out.2.2.2.2];omega)
    rw[hd]at t L;have V:(ofW E F []).1=0:=rfl;have X:(ofW E F []).2=true:=rfl;rw[V,Nat.or_zero]at t;rw[X]at L;refine⟨?_,K⟩;rw[t,<-L]
   clear J;go_wp2_with fail;refine bodyPost_ret (v:=.tuple #[.int .u64 (d:Int),.bool true]) (by simp[results,Tryz.results56,go_sem]) rfl ?_;exact s.out
theorem ubu(W:World)(B s:Nat)(p:RP8)(h:SHd)(S:Sp)(n:Nat)(E:List Bool)(F G:List Nat)(r:RT8 W B s p h S n E F G)(t:∀w∈F,w<2 ^ 64)(l:List Nat)(a:Option Addr)(m c:Nat)(A:l.length=m)(v:m<=1000)(d:Row W 1 a m c (natC l))(y:∀z∈l,z<n)(b:Nat)(C:b<64):
  Calls Tryz.prog 37 #[.pointer (some ⟨s,0,none⟩),.slice a m c,.int .i64 (b:Int)] W fun e q=>e=.returned (.int .u64 ((if (ofW E F l).2 then (ofW E F l).1 ||| 2 ^ b else (ofW E F l).1:Nat):Int))/\Below W.heap.size W q:=by
 have g:Hid (Calls Tryz.prog 56 #[.pointer (some ⟨s,0,none⟩),.slice a m c] W fun e q=>e=.returned (.tuple #[.int .u64 ((ofW E F l).1:Int),.bool (ofW E F l).2])/\Below W.heap.size W q):=uai W B s p h S n E F G r t l a m c A v d y;have k:=uap (yr E t l);have i:(2 ^ b:Nat)<18446744073709551616:=Nat.pow_lt_pow_right (by decide) (by omega:b<64);have o:=bits_or_u64_nat (ofW E F l).1 (2 ^ b) k i
 have x:Hid (∀V:World,Calls Tryz.prog 55 #[.int .i64 (b:Int)] V fun e q=>e=.returned (.int .u64 ((2 ^ b:Nat):Int))/\q=V):=fun V=>uaq V b C
 clear r t A d y;generalize 2 ^ b=D at i o x ⊢;generalize (ofW E F l).1=u at k o g ⊢
 cases j:(ofW E F l).2
 ·rw[j]at g;go_enter Tryz.func37,Tryz.ntmps37;go_wp2_with fail;refine g.out.mono ?_;rintro e w1 ⟨rfl,f⟩;go_wp2_with fail;go_ret;exact⟨by simp,f⟩
 ·rw[j]at g;go_enter Tryz.func37,Tryz.ntmps37;go_wp2_with fail;refine g.out.mono ?_;rintro e w1 ⟨rfl,f⟩;go_wp2_with fail;refine(x.out w1).mono ?_;rintro e w2 ⟨rfl,rfl⟩;go_wp2_with fail;go_ret;exact⟨by simp,f⟩
theorem ucc{W:World}{b i T:Nat}{c:Array Value}{v0 v1 v2 v3 v4 v5 v6 v7:Value}(h:W.heap[i]?=some (.cells c T (0,0)))(a:i≠b):(set8 W b v0 v1 v2 v3 v4 v5 v6 v7).heap[i]?=some (.cells c T (0,0)) :=
 qbu (qbu (qbu (qbu (qbu (qbu (qbu (qbu h a) a) a) a) a) a) a) a
theorem uac{m:Nat}{Q:Nat->Prop}(h:∀t,t<m->¬Q t):IsL m Q []:=⟨fun _=>false,fun t a=>⟨fun e=>(by cases e),fun e=>absurd e (h t a)⟩,by simp⟩
theorem ubv(w a:World){m:Nat}{Q:Nat->Prop}(h:∀t,t<m->¬Q t)(b:Below w.heap.size w a):Told w a m Q (.returned (.slice none 0 0)):=⟨[],none,0,rfl,uac h,World.ownsRow_nil _ _ _ _,b⟩
theorem uci(W:World)(B b n:Nat)(p:FP)(E:List Bool)(S:Sp)(o:List (List Nat))(h:FS W B b p n S E o)(x:Int)(d:¬(x≠(S.tk:Int)/\0<=x/\x<(n:Int)))(v:Nat)(c0:W.cell? ⟨v,0,none⟩=some (.int .i64 x)):
  Calls Tryz.prog 19 #[.pointer (some ⟨b,0,none⟩),.slice (some ⟨v,0,none⟩) 1 1,.int .i64 (-1)] W fun e f=>Told W f (S.tk+1) (fun _=>False) e:=by
 have C:=h.fm.c0;have i:=h.fm.c1;have hd:decide (x≠(S.tk:Int)/\0<=x/\x<(n:Int))=false:=decide_eq_false d
 have z:Hid (Calls Tryz.prog 23 #[.pointer (some ⟨b,0,none⟩),.int .i64 x] W fun e H=>e=.returned (.bool false)/\H=W):=by
  by_cases g:0<=x/\x<(n:Int)
  ·have m:x=(S.tk:Int):=Classical.byContradiction fun j=>d ⟨j,g⟩
   subst m
   have c:S.tk<n:=by have:=h.nn;omega
   have:=qc0 W b p.eb n n S.tk (isF E S.tk) i c (h.fm.ce c)
   cases r:isF E S.tk
   ·rw[r]at this;exact this
   ·have:=(ql1 h.wf ((h.emp _).1 r)).1;omega
  ·exact uav W b n n _ x i g
 have y:Hid (Calls Tryz.prog 50 #[.pointer (some ⟨b,0,none⟩),.slice none 0 0] W fun e f=>Told W f (S.tk+1) (fun _=>False) e):=by
  refine(qef W B b n S.tk W.heap.size p E o h.fm h.ways.ins (fun k G=>(h.fm.lt G).2.1) (Nat.le_refl _) [] none 0 0 rfl (World.ownsRow_nil _ _ _ _) (fun x d=>by cases d) h.wl (by have:=h.tt;omega) (by have:=h.ways.len;have:=h.nn;omega)).mono ?_
  rintro e f ⟨l,s,u,g,j,D⟩;exact⟨l,s,u,g,j.congr (fun t _=>⟨fun⟨a,F,_⟩=>(by cases F),fun h=>h.elim⟩),D⟩
 clear h d;go_enter Tryz.func19,Tryz.ntmps19;go_wp2_with fail
 go_loopg [14,7] 1 (fun kx s14 s7 wr=>s14=.int .i64 0/\s7=.slice none 0 0/\wr=W)
 case atStart=>exact⟨rfl,rfl,rfl⟩
 case round =>
  obtain⟨rfl,rfl,rfl⟩:=hrel;go_wp2_with fail;refine(qee wr b S.tk n n (some ⟨p.eb,0,none⟩) C i x).mono ?_;rintro e w1 ⟨rfl,rfl⟩;rw[hd];go_wp2_with fail;refine z.out.mono ?_;rintro e w2 ⟨rfl,rfl⟩;go_wp2_with fail;refine y.out.mono ?_;rintro e I q;have A:Hid (Told w2 I (S.tk+1) (fun _=>False) e):=q;obtain⟨l,s,u,rfl,-⟩:=q;go_wp2_with fail;go_ret;exact A.out
theorem ubl(W:World)(B b n:Nat)(p:FP)(E:List Bool)(S:Sp)(f:List (List Nat))(h:FS W B b p n S E f)(x:Int)(m:¬(x≠(S.tk:Int)/\0<=x/\x<(n:Int))):
  Calls Tryz.prog 20 #[.pointer (some ⟨b,0,none⟩),.int .i64 x] W fun e a=>Told W a (S.tk+1) (fun _=>False) e:=by
 have d:Below W.heap.size W (W.alloc (.cells #[.int .i64 x] 3)):=qb _ _;have g:(W.alloc (.cells #[.int .i64 x] 3)).heap[W.heap.size]?=some (.cells #[.int .i64 x] 3 (0,0)):=heap_alloc_new _ _
 have i:Hid (Calls Tryz.prog 19 #[.pointer (some ⟨b,0,none⟩),.slice (some ⟨W.heap.size,0,none⟩) 1 1,.int .i64 (-1)] (W.alloc (.cells #[.int .i64 x] 3)) fun e a=>Told (W.alloc (.cells #[.int .i64 x] 3)) a (S.tk+1) (fun _=>False) e) :=
  uci _ B b n p E S f (h.below d) x m W.heap.size (by rw[qe g];rfl)
 have k:Hid (∀e a,Told (W.alloc (.cells #[.int .i64 x] 3)) a (S.tk+1) (fun _=>False) e->Told W a (S.tk+1) (fun _=>False) e):=fun e a c=>c.up d
 clear h d g;go_enter Tryz.func20,Tryz.ntmps20;go_wp2_with fail;refine i.out.mono ?_;rintro e a c;have j:Hid (Told W a (S.tk+1) (fun _=>False) e):=k.out e a c;obtain⟨l,o,q,rfl,-⟩:=c;go_wp2_with fail;go_ret;exact j.out
theorem ubc(W:World)(B a n:Nat)(p:FP)(E:List Bool)(S:Sp)(d:List (List Nat))(h:FS W B a p n S E d)(x:Int)(b:¬((S.tk:Int)<x/\x<(n:Int))):
  Calls Tryz.prog 21 #[.pointer (some ⟨a,0,none⟩),.int .i64 x] W fun e c=>e=.returned (.slice none 0 0)/\c=W:=by
 have f:=h.fm.c0;have g:=h.fm.c1;have hd:decide ((S.tk:Int)<x/\x<(n:Int))=false:=decide_eq_false b;clear h b;go_enter Tryz.func21,Tryz.ntmps21;go_wp2_with fail;refine(jt W a S.tk n n (some ⟨p.eb,0,none⟩) f g x).mono ?_;rintro e w1 ⟨rfl,rfl⟩;rw[hd];go_wp2_with fail;go_ret;exact⟨rfl,rfl⟩
end Go.Proofs.YtngclmglmhiljaaGreatDoor
