/- Texts that the proofs of the First statements stand on, part Prf03. -/
import Derived.Shelf.SlSortCmp.QuietGrown
import Derived.Lib.SliceRun
import Derived.BigQuiet
import Derived.Lib.Builder
import Derived.Lib.MakeNoZero
import Derived.Laws.IdiomCopy
import Derived.Deep.RegionWith
import Derived.Deep.RegionLaw
import Derived.Test.YtngclmglmhiljaaGreatDoorPrf02
set_option maxHeartbeats 16000000
set_option maxRecDepth 100000
namespace Go.Proofs.YtngclmglmhiljaaGreatDoor
open Go.RowKit
theorem qlz{S:Sp}{l:List Nat}{t:Nat}:FstL S l t↔∃j y,l[j]?=some y/\(∀z∈l.take j,Nul S z)/\FstP S y t:=by
 constructor
 ·rintro⟨u,y,v,rfl,a,b⟩;refine⟨u.length,y,?_,?_,b⟩
  ·rw[List.getElem?_append_right (Nat.le_refl _),Nat.sub_self];rfl
  ·have:(u++y :: v).take u.length=u:=by simp
   rw[this];exact a
 ·rintro⟨j,y,c,a,b⟩;refine⟨l.take j,y,l.drop (j+1),?_,a,b⟩;rw[<-vn c,List.take_append_drop]
theorem qfj{l:List Nat}{j k y:Nat}(b:l[j]?=some y)(h:j<k):y∈l.take k:=by
 obtain⟨c,a⟩:=List.getElem?_eq_some_iff.1 b;rw[List.mem_take_iff_getElem];exact⟨j,by omega,a⟩
theorem qf5{l:List Nat}{k a:Nat}(h:a∈l.take k):∃j,j<k/\l[j]?=some a:=by
 rw[List.mem_take_iff_getElem]at h;obtain⟨j,b,e⟩:=h;exact⟨j,by omega,by rw[<-e];exact List.getElem?_eq_getElem _⟩
theorem qiq{l:List Nat}{j k z:Nat}(c:j<=k)(h:z∈l.take j):z∈l.take k:=by
 obtain⟨i,b,a⟩:=qf5 h;exact qfj a (by omega)
theorem qpd{S:Sp}{n:Nat}{f:List (List Nat)}(g:Ways S n f)(m:S.tk<n){l:List Nat}(i:∀z∈l,z<n/\z≠S.tk){k y:Nat}(p:l[k]?=some y)(q:∀z∈l.take k,Nul S z)(d:¬Nul S y){t:Nat}(o:t<=S.tk)(Q:Prop):
  (∃a∈l.take (k+1),Got f a t)↔FstL S l t\/((∀z∈l,Nul S z)/\Q):=by
 rw[qlz]
 constructor
 ·rintro⟨a,r,u⟩;obtain⟨j,A,b⟩:=qf5 r;have c:=i a (List.mem_of_getElem? b);refine .inl ⟨j,a,b,fun z x=>q z (qiq (by omega) x),(g.got_fst c.1 c.2 o m).1 u⟩
 ·rintro(⟨j,a,b,v,s⟩ | ⟨c,-⟩)
  ·have c:=i a (List.mem_of_getElem? b);refine⟨a,qfj b ?_,(g.got_fst c.1 c.2 o m).2 s⟩
   rcases Nat.lt_or_ge k j with h | h
   ·exact absurd (v y (qfj p h)) d
   ·omega
  ·exact absurd (c y (List.mem_of_getElem? p)) d
theorem ql0{S:Sp}{n:Nat}{f:List (List Nat)}(g:Ways S n f)(i:S.tk<n){l:List Nat}(h:∀z∈l,z<n/\z≠S.tk)(m:∀z∈l,Nul S z){t:Nat}(k:t<=S.tk):(∃a∈l,Got f a t)↔FstL S l t:=by
 rw[qlz]
 constructor
 ·rintro⟨a,d,p⟩;obtain⟨j,b⟩:=List.getElem?_of_mem d;have c:=h a d;exact⟨j,a,b,fun z q=>m z (List.mem_of_mem_take q),(g.got_fst c.1 c.2 k i).1 p⟩
 ·rintro⟨j,a,b,-,o⟩;have d:=List.mem_of_getElem? b;have c:=h a d;exact⟨a,d,(g.got_fst c.1 c.2 k i).2 o⟩
theorem Ways.got_tok{S:Sp}{n:Nat}{W:List (List Nat)}(h:Ways S n W){b t:Nat}(g:b<=S.tk)(f:t<=S.tk)(d:S.tk<n)(c:∀t,¬FstP S S.tk t)(a:∀x t,x<S.tk->FstP S x t->t=x):Got W b t↔t=b:=by
 rcases Nat.lt_or_ge b S.tk with h1 | h1
 ·rw[h.got_fst (by omega) (by omega) f d];exact⟨a b t h1,fun e=>by subst e;exact FstP.tok t h1⟩
 ·have:b=S.tk:=by omega
  subst this;exact h.got_end f d c
theorem qg9{S:Sp}(c:WF S){x t:Nat}(b:x<=S.tk)(h:FstP S x t):x<S.tk/\t=x:=by
 have d:=h (fun x t=>x<=S.tk->x<S.tk/\t=x) (fun x b _=>⟨b,rfl⟩) (fun i r x y a u v f j g _ _ _ b=>by
  obtain⟨z,k,l,-⟩:=c.rl i r f j;rw[k]at g
  omega)
 exact d b
theorem ql1{S:Sp}(a:WF S){x:Nat}(h:Nul S x):S.tk<x/\x<S.tk+1+S.nt:=h (fun x=>S.tk<x/\x<S.tk+1+S.nt) (fun i r x b d c _=>by
 obtain⟨z,f,g,j⟩:=a.rl i r b d;rw[f]at c
 omega)
structure Wd where
 k:Int
 t:ByteArray
 a:Int
def endW (a:Int):Wd:=⟨5,⟨#[]⟩,a⟩
structure WdOk (w:Wd):Prop where
 kind:1<=w.k/\w.k<=4
 name:w.k=1->isL (bt (by8 w.t) 0)=true/\1<=w.t.size
 num:w.k=2->1<=w.t.size/\w.t.size<=4/\∀j,j<w.t.size->isD (bt (by8 w.t) j)=true
 sign:w.k=3->by8 w.t=[58]\/by8 w.t=[124]\/by8 w.t=[59]
 key:w.k=4->bt (by8 w.t) 0=37/\1<=w.t.size
 size:w.t.size<=100
def Ends (ws:List Wd):Prop:=∃(pre:List Wd) (a:Int),ws=pre++[endW a]/\∀w∈pre,WdOk w
theorem Ends.pos{b:List Wd}(h:Ends b):1<=b.length:=by
 obtain⟨c,a,rfl,-⟩:=h;rw[List.length_append];exact Nat.le_add_left _ _
def yv (ws:List Wd):Wd:=ws.headD (endW 0)
theorem Ends.head{c:List Wd}(h:Ends c):∃r,c=yv c :: r:=by
 obtain⟨b,a,rfl,-⟩:=h
 cases b with
 | nil=>exact⟨[],rfl⟩
 | cons x r=>exact⟨r++[endW a],rfl⟩
theorem Ends.cases{b:List Wd}(h:Ends b):(∃a,b=[endW a])\/(WdOk (yv b)/\Ends b.tail/\b=yv b :: b.tail):=by
 obtain⟨c,a,rfl,d⟩:=h
 cases c with
 | nil=>exact .inl ⟨a,rfl⟩
 | cons x r=>exact .inr ⟨d x List.mem_cons_self,⟨r,a,rfl,fun w f=>d w (List.mem_cons_of_mem _ f)⟩,rfl⟩
theorem Ends.tail_of_kind{b:List Wd}(h:Ends b)(c:(yv b).k≠5):WdOk (yv b)/\Ends b.tail:=by
 rcases h.cases with ⟨a,rfl⟩ | ⟨h1,h2,-⟩
 ·exact absurd rfl c
 ·exact⟨h1,h2⟩
theorem Ends.tail_of_text{b:List Wd}(h:Ends b)(c:(yv b).t≠⟨#[]⟩):WdOk (yv b)/\Ends b.tail:=by
 rcases h.cases with ⟨a,rfl⟩ | ⟨h1,h2,-⟩
 ·exact absurd rfl c
 ·exact⟨h1,h2⟩
structure St where
 ws:List Wd
 ts:List Tk
 ls:List Bool
 lv:Nat
 st:ByteArray
 ed:Bool
 ex:Int
 rs:List Ru
abbrev Flt:=Int × Int
def St.hd (S:St):Wd:=yv S.ws
def St.next (S:St):St:=⟨S.ws.tail,S.ts,S.ls,S.lv,S.st,S.ed,S.ex,S.rs⟩
def zj (w:Wd):Flt:=(1,w.a)
def jb (w:Wd):Flt:=(7,w.a)
def kv (k:Int) (S:St):Except Flt (Wd × St):=if S.hd.k=k then .ok (S.hd,S.next) else .error (zj S.hd)
def vg:List Tk->ByteArray->Option Nat
 | [],_=>none
 | t :: r,n=>if t.n=n then some 0 else (vg r n).map (·+1)
def tokP (w:Wd) (S:St):Except Flt (Nat × St) :=
 match vg S.ts w.t with
 | some i=>.ok (i,S)
 | none=>if S.ts.length=40 then .error (zj w) else .ok (S.ts.length,⟨S.ws,S.ts++[⟨w.t,0,0⟩],S.ls++[false],S.lv,S.st,S.ed,S.ex,S.rs⟩)
def ki (w:Wd) (S:St):Except Flt St :=
 match tokP w S with
 | .error f=>.error f
 | .ok (i,S)=>if (S.ls[i]?).getD false=true then .error (jb w) else .ok ⟨S.ws,S.ts,S.ls.set i true,S.lv,S.st,S.ed,S.ex,S.rs⟩
def tkAt (ts:List Tk) (i:Nat):Tk:=(ts[i]?).getD ⟨⟨#[]⟩,0,0⟩
def levP (l a:Int) (w:Wd) (S:St):Except Flt St :=
 match tokP w S with
 | .error f=>.error f
 | .ok (i,S)=>if (tkAt S.ts i).l≠0 then .error (jb w) else .ok ⟨S.ws,S.ts.set i ⟨(tkAt S.ts i).n,l,a⟩,S.ls,S.lv,S.st,S.ed,S.ex,S.rs⟩
def zt (say:Wd->St->Except Flt St):Nat->St->Except Flt St
 | 0,S=>.ok S
 | f+1,S =>
  match kv 1 S with
  | .error e=>.error e
  | .ok (w,S1) =>
   match say w S1 with
   | .error e=>.error e
   | .ok S2=>if S2.hd.k=1 then zt say f S2 else .ok S2
def kw (key:Wd) (a:Int) (S:St):Except Flt St :=
 if S.lv=8 then .error (zj key) else zt (levP ((S.lv:Int)+1) a) S.ws.length ⟨S.ws,S.ts,S.ls,S.lv+1,S.st,S.ed,S.ex,S.rs⟩
def vo (key:Wd) (S:St):Except Flt St :=
 if S.st≠⟨#[]⟩ then .error (jb key) else
  match kv 1 S with
  | .error e=>.error e
  | .ok (w,S1)=>.ok ⟨S1.ws,S1.ts,S1.ls,S1.lv,w.t,S1.ed,S1.ex,S1.rs⟩
def numP (l:List UInt8):Int:=l.foldl (fun a c=>a * 10+((c.toNat:Int) - 48)) 0
def jg (key:Wd) (S:St):Except Flt St :=
 if S.ed=true then .error (jb key) else
  match kv 2 S with
  | .error e=>.error e
  | .ok (w,S1)=>.ok ⟨S1.ws,S1.ts,S1.ls,S1.lv,S1.st,true,numP (by8 w.t),S1.rs⟩
def tTok:ByteArray:=⟨#[37,116,111,107,101,110]⟩
def qmm:ByteArray:=⟨#[37,108,101,102,116]⟩
def qjp:ByteArray:=⟨#[37,114,105,103,104,116]⟩
def tNon:ByteArray:=⟨#[37,110,111,110,97,115,115,111,99]⟩
def qjq:ByteArray:=⟨#[37,115,116,97,114,116]⟩
def tExp:ByteArray:=⟨#[37,101,120,112,101,99,116]⟩
def qjc:ByteArray:=⟨#[37,112,114,101,99]⟩
def tTwo:ByteArray:=⟨#[37,37]⟩
def tCol:ByteArray:=⟨#[58]⟩
def tBar:ByteArray:=⟨#[124]⟩
def qmn:ByteArray:=⟨#[59]⟩
def zm (S:St):Except Flt St :=
 if S.hd.t=tTok then zt ki S.ws.length S.next
 else if S.hd.t=qmm then kw S.hd 1 S.next
 else if S.hd.t=qjp then kw S.hd 2 S.next
 else if S.hd.t=tNon then kw S.hd 3 S.next
 else if S.hd.t=qjq then vo S.hd S.next
 else if S.hd.t=tExp then jg S.hd S.next
 else .error (zj S.hd)
def symP:Nat->List ByteArray->St->Except Flt (List ByteArray × St)
 | 0,l,S=>.ok (l,S)
 | f+1,l,S=>if S.hd.k=1 then (if l.length=20 then .error (zj S.hd) else symP f (l++[S.hd.t]) S.next) else .ok (l,S)
def kg (S:St) (r:Ru):St:=⟨S.ws,S.ts,S.ls,S.lv,S.st,S.ed,S.ex,S.rs++[r]⟩
def altP (left:ByteArray) (S:St):Except Flt St :=
 if S.rs.length=100 then .error (zj S.hd) else
  match symP S.ws.length [] S with
  | .error e=>.error e
  | .ok (r,S1) =>
   if S1.hd.t=qjc then
    match kv 1 S1.next with
    | .error e=>.error e
    | .ok (w,S2)=>.ok (kg S2 ⟨left,r,w.t⟩)
   else .ok (kg S1 ⟨left,r,⟨#[]⟩⟩)
def ji (left:ByteArray):Nat->St->Except Flt St
 | 0,S=>.ok S
 | f+1,S =>
  match altP left S with
  | .error e=>.error e
  | .ok S1=>if S1.hd.t=qmn then .ok S1.next else if S1.hd.t=tBar then ji left f S1.next else .error (zj S1.hd)
def jh (S:St):Except Flt St :=
 match kv 1 S with
 | .error e=>.error e
 | .ok (w,S1)=>if S1.hd.t=tCol then ji w.t S1.ws.length S1.next else .error (zj S1.hd)
def x8:Nat->St->Except Flt St
 | 0,S=>.ok S
 | f+1,S=>if S.hd.t=tTwo then .ok S.next else
  match zm S with
  | .error e=>.error e
  | .ok S1=>x8 f S1
def x9:Nat->St->Except Flt St
 | 0,S=>.ok S
 | f+1,S=>if S.hd.k=5 then .ok S else
  match jh S with
  | .error e=>.error e
  | .ok S1=>x9 f S1
def vh (S:St):Except Flt St :=
 match x8 S.ws.length S with
 | .error e=>.error e
 | .ok S1=>x9 S1.ws.length S1
structure StOk (S:St):Prop where
 ends:Ends S.ws
 nt:S.ts.length<=40
 nl:S.ls.length=S.ts.length
 lv:S.lv<=8
 nr:S.rs.length<=100
theorem StOk.next{S:St}(h:StOk S)(a:Ends S.ws.tail):StOk S.next:=⟨a,h.nt,h.nl,h.lv,h.nr⟩
theorem j4{S:St}(h:StOk S):S.next.ws.length+1=S.ws.length:=by
 obtain⟨r,a⟩:=h.ends.head;show S.ws.tail.length+1=_;rw[a];rfl
theorem qpe{k:Int}{S b:St}{w:Wd}(h:StOk S)(f:k≠5)(a:kv k S=.ok (w,b)):WdOk w/\w=S.hd/\w.k=k/\b=S.next/\StOk b:=by
 unfold kv at a
 split at a
 ·rename_i hc
  cases a
  obtain⟨c,d⟩:=h.ends.tail_of_kind (by rw[show(yv S.ws).k=k from hc];exact f)
  exact⟨c,rfl,hc,rfl,h.next d⟩
 ·cases a
theorem qbb{k:Int}{S:St}{f:Flt}(a:kv k S=.error f):S.hd.k≠k/\f=zj S.hd:=by
 unfold kv at a
 split at a
 ·cases a
 ·rename_i hc
  cases a
  exact⟨hc,rfl⟩
theorem qfk:∀{ts:List Tk} {n:ByteArray} {i:Nat},vg ts n=some i->∃t,ts[i]?=some t/\t.n=n
 | [],n,i,h=>by cases h
 | t :: r,n,i,h=>by
  unfold vg at h
  split at h
  ·rename_i hc
   cases h
   exact⟨t,rfl,hc⟩
  ·obtain⟨j,a,rfl⟩:=Option.map_eq_some_iff.1 h;obtain⟨u,c,b⟩:=qfk a;exact⟨u,by simpa using c,b⟩
theorem qcv{w:Wd}{S b:St}{i:Nat}(h:StOk S)(a:tokP w S=.ok (i,b)):StOk b/\i<b.ts.length/\b.ws=S.ws/\b.lv=S.lv:=by
 unfold tokP at a
 split at a
 ·rename_i j hj
  cases a
  obtain⟨t,a,-⟩:=qfk hj;exact⟨h,(List.getElem?_eq_some_iff.1 a).1,rfl,rfl⟩
 ·split at a
  ·cases a
  ·rename_i hc
   cases a
   refine⟨⟨h.ends,?_,?_,h.lv,h.nr⟩,?_,rfl,rfl⟩
   ·simp only[List.length_append,List.length_cons,List.length_nil];have:=h.nt;omega
   ·simp only[List.length_append,List.length_cons,List.length_nil];rw[h.nl]
   ·simp only[List.length_append,List.length_cons,List.length_nil];omega
theorem qpf{w:Wd}{S g:St}(h:StOk S)(f:ki w S=.ok g):StOk g/\g.ws=S.ws/\g.lv=S.lv:=by
 unfold ki at f
 split at f
 ·cases f
 ·rename_i i S2 h2;obtain⟨a,b,c,d⟩:=qcv h h2
  split at f
  ·cases f
  ·cases f
   exact⟨⟨a.ends,a.nt,by simp only[List.length_set];exact a.nl,a.lv,a.nr⟩,c,d⟩
theorem qqz{l q:Int}{w:Wd}{S g:St}(h:StOk S)(f:levP l q w S=.ok g):StOk g/\g.ws=S.ws/\g.lv=S.lv:=by
 unfold levP at f
 split at f
 ·cases f
 ·rename_i i S2 h2;obtain⟨a,b,c,d⟩:=qcv h h2
  split at f
  ·cases f
  ·cases f
   exact⟨⟨a.ends,by simp only[List.length_set];exact a.nt,by simp only[List.length_set];exact a.nl,a.lv,a.nr⟩,c,d⟩
end Go.Proofs.YtngclmglmhiljaaGreatDoor
namespace Go.Proofs.YtngclmglmhiljaaGreatDoor
open Go.RowKit Go.Sort
theorem qay:Tryz.prog.follows .mixedOrders=true:=by kernel_rfl
theorem qj{w b:World}{a:Addr}{v:Value}(c:Below w.heap.size w b)(h:w.cell? a=some v):b.cell? a=some v:=by
 have d:=World.block_lt_of_cell? w a h;rw[<-h]
 unfold World.cell?
 rw[c.block _ d]
def onto (w:World) (n:Nat) (os:Array Obj):World:=grow { w with drawn:=n } os
theorem ke(w:World)(n:Nat)(os:Array Obj):Below w.heap.size w (onto w n os):=by
 refine⟨rfl,rfl,rfl,by simp[onto,grow],fun k a=>?_⟩;unfold onto grow;simp only[Array.getElem?_append];rw[if_pos a]
theorem qir{w a:World}(h:Below w.heap.size w a):∃n os,a=onto w n os:=by
 refine⟨a.drawn,a.heap.extract w.heap.size a.heap.size,?_⟩;obtain⟨k,m,j,o,l⟩:=a;obtain⟨b,c,d,g,f⟩:=h;simp only at b c d g f;unfold onto grow;simp only[b,c,d]
 congr 1
 apply Array.ext_getElem?
 intro i;rw[Array.getElem?_append]
 split
 ·rename_i hi;exact f i hi
 ·rename_i hi;rw[Array.getElem?_extract]
  split
  ·congr 1;omega
  ·rename_i hk;rw[Array.getElem?_eq_none (by omega)]
theorem kh{w:World}{a:Addr}{v:Value}(h:w.cell? a=some v)(n:Nat)(os:Array Obj):(onto w n os).cell? a=some v:=qj (ke w n os) h
theorem zv{f:Nat}{Q:Exit->Act->World->Prop}{a:Act}{w:World}{l:List Oper}(d:Region.lexB .any l.toArray=true)(h:wpQuiet Tryz.prog l.toArray (fun b=>∃p:GrownBy,b=onto w p.n p.os) (fun c=>∀b,(∃p:GrownBy,b=onto w p.n p.os)->Q .normal c b) l a):(Code.region f l.toArray true).wp Tryz.prog Q a w :=
 wp_region_quiet (C:=fun b=>∃p:GrownBy,b=onto w p.n p.os) qay d ⟨⟨w.drawn+1,#[]⟩,by unfold onto;rw[grow_empty]⟩ (by simpa using h)
theorem j5{f:FuncId}{args:Array Value}{w:World}{n:Nat}{os:Array Obj}{v:Value}(h:Calls Tryz.prog f args (onto w n os) fun e g=>e=.returned v/\Below (onto w n os).heap.size (onto w n os) g):Calls Tryz.prog f args (onto w n os) fun e b=>e=.returned v/\∃p:GrownBy,b=onto w p.n p.os :=
 h.mono fun _ _ ⟨d,c⟩=>⟨d,by
  obtain⟨m,a,rfl⟩:=qir (qd (ke w n os) c)
  exact⟨⟨m,a⟩,rfl⟩⟩
theorem qag{f:FuncId}{args:Array Value}{w:World}{n:Nat}{os:Array Obj}{v:Value}(h:Calls Tryz.prog f args (onto w n os) fun e d=>e=.returned v/\d=onto w n os):Calls Tryz.prog f args (onto w n os) fun e a=>e=.returned v/\∃p:GrownBy,a=onto w p.n p.os :=
 h.mono fun _ _ ⟨c,b⟩=>⟨c,⟨n,os⟩,b⟩
structure Row (w:World) (k:Nat) (ao:Option Addr) (n cap:Nat) (cs:List Value):Prop where
 len:cs.length=n * k
 le:n<=cap
 max:cap<=maxLen
 lies:(ao=none/\n=0/\cap=0)\/∃b o,ao=some ⟨b,o,none⟩/\∀(j:Nat) (u:Value),cs[j]?=some u->w.cell? ⟨b,o+j,none⟩=some u
theorem Row.below{w d:World}{k:Nat}{c:Option Addr}{n a:Nat}{cs:List Value}(h:Row w k c n a cs)(f:Below w.heap.size w d):Row d k c n a cs :=
 ⟨h.len,h.le,h.max,h.lies.imp id fun⟨b,o,i,g⟩=>⟨b,o,i,fun j u l=>qj f (g j u l)⟩⟩
theorem Row.at{w:World}{k:Nat}{c:Option Addr}{n a:Nat}{cs:List Value}(h:Row w k c n a cs)(d:0<n):∃b o,c=some ⟨b,o,none⟩/\∀(j:Nat) (u:Value),cs[j]?=some u->w.cell? ⟨b,o+j,none⟩=some u:=by
 rcases h.lies with ⟨-,h0,-⟩ | h
 ·omega
 ·exact h
theorem Row.take{w:World}{k:Nat}{d:Option Addr}{n a:Nat}{cs:List Value}(h:Row w k d n a cs)(i:Nat)(f:i<=n):Row w k d i a (cs.take (i * k)):=by
 have g:i * k<=n * k:=Nat.mul_le_mul_right k f;refine⟨by rw[List.length_take,h.len];omega,by have:=h.le;omega,h.max,?_⟩
 rcases h.lies with ⟨h1,h2,h3⟩ | ⟨b,o,he,hc⟩
 ·exact .inl ⟨h1,by omega,h3⟩
 ·refine .inr ⟨b,o,he,fun j u c=>hc j u ?_⟩;rw[List.getElem?_take]at c
  split at c
  ·exact c
  ·cases c
theorem Row.of_own{w:World}{a E k n:Nat}{d:Option Addr}{b:Nat}{cs:List Value}(h:w.ownsRow a E k (.slice d n b) n cs):Row w k d n b cs:=by
 obtain⟨m,c1,e,f,i,c⟩:=zh h
 cases e
 refine⟨h.1,f,i,?_⟩
 rcases c with c | ⟨g,rfl⟩
 ·exact .inl c
 ·refine .inr ⟨g,0,rfl,fun j u l=>?_⟩;have:=World.ownsRow.cells h (g:=g) rfl j u l
  rwa [Addr.add_lit]at this
def strC (l:List ByteArray):List Value:=l.map Value.string
def tokC (ts:List Tk):List Value:=ts.flatMap fun t=>[.string t.n,.int .i64 t.l,.int .i64 t.a]
def rulC (qs:List (Ru × Option Addr × Nat)):List Value:=qs.flatMap fun q=>[.string q.1.l,.slice q.2.1 q.1.r.length q.2.2,.string q.1.p]
theorem vp{α:Type}(f:α->List Value)(a:∀x,(f x).length=3):∀(l:List α) (i:Nat) (x:α) (j:Nat),l[i]?=some x->j<3->(l.flatMap f)[i * 3+j]?=(f x)[j]?
 | [],i,x,j,h,_=>by cases h
 | y :: r,0,x,j,h,hj=>by
  cases h
  rw[List.flatMap_cons,List.getElem?_append_left (by rw[a];omega)]
  rw[Nat.zero_mul,Nat.zero_add]
 | y :: r,i+1,x,j,h,hj=>by
  rw[List.flatMap_cons,List.getElem?_append_right (by rw[a];omega),a]
  rw[show(i+1) * 3+j - 3=i * 3+j by omega];exact vp f a r i x j h hj
theorem qah{α:Type}(f:α->List Value)(a:∀x,(f x).length=3):∀(l:List α),(l.flatMap f).length=l.length * 3
 | []=>rfl
 | y :: r=>by rw[List.flatMap_cons,List.length_append,a,qah f a r,List.length_cons];omega
theorem qmo{α:Type}(f:α->List Value)(a:∀x,(f x).length=3)(l:List α)(i:Nat):(l.flatMap f).take (i * 3)=(l.take i).flatMap f:=by
 induction i generalizing l with
 | zero=>simp
 | succ i ih =>
  cases l with
  | nil=>simp
  | cons y r =>
   rw[List.take_succ_cons,List.flatMap_cons,List.flatMap_cons,List.take_append,a,List.take_of_length_le (by rw[a];omega),show(i+1) * 3 - 3=i * 3 by omega,ih]
theorem ja{w:World}{g:Option Addr}{n d:Nat}{ts:List Tk}(h:Row w 3 g n d (tokC ts)){i:Nat}{t:Tk}(c:ts[i]?=some t):
  ∃b o,g=some ⟨b,o,none⟩/\w.cell? ⟨b,o+i * 3,none⟩=some (.string t.n)/\w.cell? ⟨b,o+i * 3+1,none⟩=some (.int .i64 t.l)/\w.cell? ⟨b,o+i * 3+2,none⟩=some (.int .i64 t.a):=by
 have j:=h.len;unfold tokC at j;rw[qah _ (fun _=>rfl)]at j;have m:i<ts.length:=(List.getElem?_eq_some_iff.1 c).1;obtain⟨b,o,k,f⟩:=h.at (by omega);refine⟨b,o,k,?_,?_,?_⟩
 ·exact f (i * 3+0) _ (by unfold tokC;rw[vp _ (fun _=>rfl) ts i t 0 c (by omega)];rfl)
 ·exact f (i * 3+1) _ (by unfold tokC;rw[vp _ (fun _=>rfl) ts i t 1 c (by omega)];rfl)
 ·exact f (i * 3+2) _ (by unfold tokC;rw[vp _ (fun _=>rfl) ts i t 2 c (by omega)];rfl)
theorem qrz{w:World}{f:Option Addr}{n c:Nat}{qs:List (Ru × Option Addr × Nat)}(h:Row w 3 f n c (rulC qs)){i:Nat}{q:Ru × Option Addr × Nat}(a:qs[i]?=some q):
  ∃b o,f=some ⟨b,o,none⟩/\w.cell? ⟨b,o+i * 3,none⟩=some (.string q.1.l)/\w.cell? ⟨b,o+i * 3+1,none⟩=some (.slice q.2.1 q.1.r.length q.2.2)/\w.cell? ⟨b,o+i * 3+2,none⟩=some (.string q.1.p):=by
 have g:=h.len;unfold rulC at g;rw[qah _ (fun _=>rfl)]at g;have k:i<qs.length:=(List.getElem?_eq_some_iff.1 a).1;obtain⟨b,o,j,d⟩:=h.at (by omega);refine⟨b,o,j,?_,?_,?_⟩
 ·exact d (i * 3+0) _ (by unfold rulC;rw[vp _ (fun _=>rfl) qs i q 0 a (by omega)];rfl)
 ·exact d (i * 3+1) _ (by unfold rulC;rw[vp _ (fun _=>rfl) qs i q 1 a (by omega)];rfl)
 ·exact d (i * 3+2) _ (by unfold rulC;rw[vp _ (fun _=>rfl) qs i q 2 a (by omega)];rfl)
theorem jm{w:World}{c:Option Addr}{n a:Nat}{l:List ByteArray}(h:Row w 1 c n a (strC l)){i:Nat}{s:ByteArray}(f:l[i]?=some s):
  ∃b o,c=some ⟨b,o,none⟩/\w.cell? ⟨b,o+i,none⟩=some (.string s):=by
 have d:=h.len;unfold strC at d;rw[List.length_map]at d;have k:i<l.length:=(List.getElem?_eq_some_iff.1 f).1;obtain⟨b,o,j,g⟩:=h.at (by omega);exact⟨b,o,j,g i _ (by unfold strC;rw[List.getElem?_map,f];rfl)⟩
theorem qpg{w:World}{b:Option Addr}{n a:Nat}{ts:List Tk}(h:Row w 3 b n a (tokC ts))(i:Nat)(c:i<=n):Row w 3 b i a (tokC (ts.take i)):=by
 have:=h.take i c;unfold tokC at this ⊢
 rwa [qmo _ (fun _=>rfl)]at this
def ks (w:World) (ao:Option Addr) (n cap:Nat) (rs:List Ru):Prop :=
 ∃qs:List (Ru × Option Addr × Nat),qs.map (·.1)=rs/\Row w 3 ao n cap (rulC qs)/\∀q∈qs,Row w 1 q.2.1 q.1.r.length q.2.2 (strC q.1.r)
theorem ks.below{w d:World}{b:Option Addr}{n a:Nat}{rs:List Ru}(h:ks w b n a rs)(c:Below w.heap.size w d):ks d b n a rs:=by
 obtain⟨qs,f,g,i⟩:=h;exact⟨qs,f,g.below c,fun q j=>(i q j).below c⟩
theorem ks.at{w:World}{c:Option Addr}{n a:Nat}{rs:List Ru}(h:ks w c n a rs){i:Nat}{r:Ru}(f:rs[i]?=some r):
  ∃b o g j,c=some ⟨b,o,none⟩/\w.cell? ⟨b,o+i * 3,none⟩=some (.string r.l)/\w.cell? ⟨b,o+i * 3+1,none⟩=some (.slice g r.r.length j)/\w.cell? ⟨b,o+i * 3+2,none⟩=some (.string r.p)/\Row w 1 g r.r.length j (strC r.r):=by
 obtain⟨qs,rfl,k,m⟩:=h;rw[List.getElem?_map]at f;obtain⟨q,d,rfl⟩:=Option.map_eq_some_iff.1 f;obtain⟨b,o,s,c0,c1,c2⟩:=qrz k d;exact⟨b,o,q.2.1,q.2.2,s,c0,c1,c2,m q (List.mem_of_getElem? d)⟩
structure Hd where
 ta:Option Addr
 tc:Nat
 ra:Option Addr
 rc:Nat
def gv (h:Hd) (G:Gm):Value:=.agg #[.slice h.ta G.ts.length h.tc,.string G.s,.int .i64 G.e,.slice h.ra G.rs.length h.rc]
structure IsG (w:World) (h:Hd) (G:Gm):Prop where
 tok:Row w 3 h.ta G.ts.length h.tc (tokC G.ts)
 rul:ks w h.ra G.rs.length h.rc G.rs
 small:Small G
theorem IsG.below{w b:World}{h:Hd}{G:Gm}(g:IsG w h G)(a:Below w.heap.size w b):IsG b h G:=⟨g.tok.below a,g.rul.below a,g.small⟩
end Go.Proofs.YtngclmglmhiljaaGreatDoor
namespace Go.Proofs.YtngclmglmhiljaaGreatDoor
open Go.RowKit
theorem qb(w:World)(o:Obj):Below w.heap.size w (w.alloc o):=(Below.refl _ _).alloc (Nat.le_refl _) _
theorem qo{w:World}{a:Addr}{v:Value}(h:w.cell? a=some v)(o:Obj):(w.alloc o).cell? a=some v:=qj (qb w o) h
theorem qmp(t:Tk)(c:Nat)(s:ByteArray)(w:World)(b:w.cell? ⟨c,0,none⟩=some (.string s)):
  Calls Tryz.prog 115 #[.agg #[.string t.n,.int .i64 t.l,.int .i64 t.a],.pointer (some ⟨c,0,none⟩)] w fun e d=>e=.returned (.bool (t.n.toList == s.toList))/\Below w.heap.size w d:=by
 have b:=qo b;go_enter Tryz.func115,Tryz.ntmps115;go_wp2;go_ret;exact⟨rfl,(Below.refl _ _).alloc (Nat.le_refl _) _⟩
def hasN (ts:List Tk) (s:ByteArray):Prop:=∃t∈ts,t.n=s
theorem qf6(ts:List Tk)(v:Option Addr)(n c m:Nat)(s:ByteArray)(w:World)(p:Row w 3 v n c (tokC ts))(G:n=ts.length)(M:n<=1000)(F:w.cell? ⟨m,0,none⟩=some (.string s)):
  Calls Tryz.prog 129 #[.slice v n c,.func (.func 115) #[] #[.pointer (some ⟨m,0,none⟩)]] w fun e B=>∃r:Int,e=.returned (.int .i64 r)/\(0<=r↔hasN ts s)/\Below w.heap.size w B:=by
 have C:Hid (n=ts.length):=G
 have D:Hid (Row w 3 v n c (tokC ts)/\w.cell? ⟨m,0,none⟩=some (.string s)):=⟨p,F⟩
 have I:=p.le
 have L:c<=9223372036854775807:=by have:=p.max;unfold maxLen at this;omega
 clear p F G;go_enter Tryz.func129,Tryz.ntmps129;go_wp2
 go_loopg [8] n (fun kx s8 wr=>∃k:Nat,s8=.int .i64 k/\k<=n/\n - k<=kx/\Hid (Below w.heap.size w wr/\∀i t,i<k->ts[i]?=some t->t.n≠s))
 case atStart=>exact⟨0,rfl,Nat.zero_le _,by omega,(⟨Below.refl _ _,fun i t j=>absurd j (Nat.not_lt_zero _)⟩:Below w.heap.size w w/\∀i t,i<0->ts[i]?=some t->t.n≠s)⟩
 case round =>
  obtain⟨k,rfl,P,O,J⟩:=hrel
  by_cases y:k<n
  ·obtain⟨t,z⟩:∃t,ts[k]?=some t:=⟨ts[k]'(by rw[<-C.out];exact y),List.getElem?_eq_getElem _⟩
   obtain⟨b,o,rfl,c0,c1,c2⟩:=ja (D.out.1.below J.out.1) z;have E:Hid (ts[k]?=some t):=z;have f:Hid (Calls Tryz.prog 115 #[.agg #[.string t.n,.int .i64 t.l,.int .i64 t.a],.pointer (some ⟨m,0,none⟩)] wr fun e B=>e=.returned (.bool (t.n.toList == s.toList))/\Below wr.heap.size wr B):=qmp t m s wr (qj J.out.1 D.out.2);clear z
   by_cases d:t.n=s
   ·have g:=xh d;rw[g]at f
    have q:Hid (hasN ts s):=⟨t,List.mem_of_getElem? E.out,d⟩
    generalize t.n=N at c0 f;clear g d;go_wp2_with(go_at_call 115;refine f.out.mono ?_;rintro e w1 ⟨rfl,x⟩)
    go_ret;exact⟨k,rfl,⟨fun _=>q.out,fun _=>by omega⟩,qd J.out.1 x⟩
   ·have g:=k9 d;rw[g]at f
    have q:Hid (∀i t,i<k+1->ts[i]?=some t->t.n≠s):=fun i u j A=>by
     rcases Nat.lt_or_ge i k with h | h
     ·exact J.out.2 i u h A
     ·have:i=k:=by omega
      subst this;rw[E.out]at A
      cases A
      exact d
    generalize t.n=N at c0 f;clear g d;go_wp2_with(go_at_call 115;refine f.out.mono ?_;rintro e w1 ⟨rfl,x⟩)
    go_roundg (n - (k+1))
    case measure=>omega
    case rel=>exact⟨k+1,by simp,by omega,Nat.le_refl _,(⟨qd J.out.1 x,q.out⟩:Below w.heap.size w w1/\∀i t,i<k+1->ts[i]?=some t->t.n≠s)⟩
  ·go_wp2;go_ret;refine⟨-1,rfl,⟨fun h=>by omega,fun⟨t,K,d⟩=>?_⟩,J.out.1⟩;obtain⟨i,j⟩:=List.getElem?_of_mem K;have H:i<ts.length:=(List.getElem?_eq_some_iff.1 j).1;exact absurd d (J.out.2 i t (by rw[<-C.out]at H;omega) j)
theorem qha(ts:List Tk)(b:Option Addr)(n a c:Nat)(s:ByteArray)(w:World)(r:Bool)(l:r=true↔hasN ts s)(m:Row w 3 b n a (tokC ts))(k:n=ts.length)(d:n<=1000)(i:w.cell? ⟨c,0,none⟩=some (.string s)):
  Calls Tryz.prog 114 #[.slice b n a,.func (.func 115) #[] #[.pointer (some ⟨c,0,none⟩)]] w fun e f=>e=.returned (.bool r)/\Below w.heap.size w f:=by
 have H1:Hid (Calls Tryz.prog 129 #[.slice b n a,.func (.func 115) #[] #[.pointer (some ⟨c,0,none⟩)]] w fun e f=>∃r:Int,e=.returned (.int .i64 r)/\(0<=r↔hasN ts s)/\Below w.heap.size w f) :=
  qf6 ts b n a c s _ m k d i
 have o:Hid (r=true↔hasN ts s):=l;clear m k i l;go_enter Tryz.func114,Tryz.ntmps114;go_wp2_with fail;refine H1.out.mono ?_;rintro e w1 ⟨x,rfl,j,h⟩
 have g:Hid (r=decide (0<=x)/\Below w.heap.size w w1):=⟨by rw[Bool.eq_iff_iff,o.out,<-j];simp,h⟩
 clear j h;go_wp2_with fail;go_ret;exact⟨by rw[g.out.1];rfl,g.out.2⟩
theorem qis(ts:List Tk)(b:Option Addr)(n a:Nat)(s:ByteArray)(w:World)(r:Bool)(h:r=true↔hasN ts s)(i:Row w 3 b n a (tokC ts))(g:n=ts.length)(c:n<=1000):
  Calls Tryz.prog 103 #[.slice b n a,.string s] w fun e d=>e=.returned (.bool r)/\Below w.heap.size w d:=by
 have j:Hid (Calls Tryz.prog 114 #[.slice b n a,.func (.func 115) #[] #[.pointer (some ⟨w.heap.size,0,none⟩)]] (w.alloc (.cells #[.string s] 9)) fun e d=>e=.returned (.bool r)/\Below (w.alloc (.cells #[.string s] 9)).heap.size (w.alloc (.cells #[.string s] 9)) d) :=
  qha ts b n a w.heap.size s _ r h (i.below (qb _ _)) g c (by rw[World.cell?_alloc_mark];rfl)
 clear i g h;go_enter Tryz.func103,Tryz.ntmps103;go_wp2_with fail;refine j.out.mono ?_;rintro e w1 ⟨rfl,f⟩;have k:Hid (Below w.heap.size w w1):=qd (qb _ _) f;clear f;go_wp2_with fail;go_ret;exact⟨rfl,k.out⟩
theorem zr(p:Prop):∃b:Bool,(b=true↔p):=by
 rcases Classical.em p with h | h
 ·exact⟨true,by simp[h]⟩
 ·exact⟨false,by simp[h]⟩
theorem ky{p:Prop}{b:Bool}(h:b=true↔p)(a:p):b=true:=h.2 a
theorem zb{p:Prop}{b:Bool}(h:b=true↔p)(a:¬p):b=false:=by
 cases b
 ·rfl
 ·exact absurd (h.1 rfl) a
theorem qhb(t:Tk)(w:World):
  Calls Tryz.prog 116 #[.agg #[.string t.n,.int .i64 t.l,.int .i64 t.a]] w fun e i=>e=.returned (.bool ((levB t)))/\Below w.heap.size w i:=by
 obtain⟨n,l,a⟩:=t
 have c:Hid (∀o:Obj,Below w.heap.size w (w.alloc o)):=fun o=>(Below.refl _ _).alloc (Nat.le_refl _) _
 by_cases b:l=0
 ·have H:Hid ((levB ⟨n,l,a⟩)=(a == 0)):=by
   show _=_;rw[Bool.eq_iff_iff,qaq];unfold LevP;simp[b]
  have f:(l == 0)=true:=by simpa using b
  go_enter Tryz.func116,Tryz.ntmps116;go_wp2;go_ret;exact⟨by rw[H.out];rfl,c.out _⟩
 ·have f:(l == 0)=false:=by simpa using b
  by_cases d:1<=l
  ·by_cases g:l<=8
   ·by_cases h:1<=a
    ·have H:Hid ((levB ⟨n,l,a⟩)=decide (a<=3)):=by
      show _=_;rw[Bool.eq_iff_iff,qaq];unfold LevP;simp[b,d,g,h]
     go_enter Tryz.func116,Tryz.ntmps116;go_wp2;go_ret;exact⟨by rw[H.out];rfl,c.out _⟩
    ·have H:Hid ((levB ⟨n,l,a⟩)=false):=by
      show _=_;rw[Bool.eq_false_iff,Ne,qaq];unfold LevP;simp[b,d,g,h]
     go_enter Tryz.func116,Tryz.ntmps116;go_wp2;go_ret;exact⟨by rw[H.out];rfl,c.out _⟩
   ·have H:Hid ((levB ⟨n,l,a⟩)=false):=by
     show _=_;rw[Bool.eq_false_iff,Ne,qaq];unfold LevP;simp[b,d,g]
    go_enter Tryz.func116,Tryz.ntmps116;go_wp2;go_ret;exact⟨by rw[H.out];rfl,c.out _⟩
  ·have H:Hid ((levB ⟨n,l,a⟩)=false):=by
    show _=_;rw[Bool.eq_false_iff,Ne,qaq];unfold LevP;simp[b,d]
   go_enter Tryz.func116,Tryz.ntmps116;go_wp2;go_ret;exact⟨by rw[H.out];rfl,c.out _⟩
def ar9 (l:List Int):Array Value:=(l.map (Value.int .i64)).toArray
theorem nine{l:List Int}(h:l.length=9):∃a b c d e f g i j,l=[a,b,c,d,e,f,g,i,j]:=by
 match l,h with
 | [a,b,c,d,e,f,g,i,j],_=>exact⟨a,b,c,d,e,f,g,i,j,rfl⟩
theorem qf7{l:List Int}(h:l.length=9){k:Nat}(a:k<9):(ar9 l)[k]?=some (.int .i64 ((l[k]?).getD 0)):=by
 unfold ar9;rw[List.getElem?_toArray,List.getElem?_map,List.getElem?_eq_getElem (by omega)];rfl
theorem qe{w:World}{b:Nat}{cs:Array Value}{T:TypeId}{a:Nat × Nat}(c:w.heap[b]?=some (.cells cs T a))(j:Nat):w.cell? ⟨b,j,none⟩=cs[j]?:=by
 simp[World.cell?,c]
theorem qi{w:World}{b:Nat}{cs:Array Value}{T:TypeId}(a:w.heap[b]?=some (.cells cs T (0,0)))(j:Nat):w.frozen? ⟨b,j,none⟩=false:=by
 simp[World.frozen?,a]
theorem qnu(l:List Int)(Q:l.length=9)(r:Bool)(R:r=true↔¬qaf l)(w:World):
  Calls Tryz.prog 117 #[.agg (ar9 l)] w fun e Y=>e=.returned (.bool r)/\Below w.heap.size w Y:=by
 have M:Hid (r=true↔¬qaf l):=R;clear R
 have n:Hid (∀k,k<9->(w.alloc (.cells (ar9 l) 129)).cell? ⟨w.heap.size,k,none⟩=some (.int .i64 ((l[k]?).getD 0))):=fun k V=>by
  rw[World.cell?_alloc_mark];exact qf7 Q V
 have E:Hid (Below w.heap.size w (w.alloc (.cells (ar9 l) 129))):=qb _ _;obtain⟨a,b,c,d,e,f,g,i,j,S⟩:∃a b c d e f g i j,Hid (l=[a,b,c,d,e,f,g,i,j]):=nine Q
 have P:ar9 l=#[.int .i64 a,.int .i64 b,.int .i64 c,.int .i64 d,.int .i64 e,.int .i64 f,.int .i64 g,.int .i64 i,.int .i64 j]:=by rw[S.out];rfl
 have o:=n;rw[P]at o E ⊢;clear P n;go_enter Tryz.func117,Tryz.ntmps117
 go_upto_region 1 with fail
 generalize w.alloc (.cells #[.int .i64 a,.int .i64 b,.int .i64 c,.int .i64 d,.int .i64 e,.int .i64 f,.int .i64 g,.int .i64 i,.int .i64 j] 129)=w1 at o E ⊢;go_wp2
 go_loop [3] (fun v=>∃k:Nat,2<=k/\k<=9/\v=.int .i64 k/\Hid (∀m,2<=m->m<k->(l[m]?).getD 0≠0->(l[m - 1]?).getD 0≠0)) (fun v=>9 - (intOf v).toNat)
 case atStart=>exact⟨2,by omega,by omega,rfl,(fun m O F=>by omega:∀m,2<=m->m<2->(l[m]?).getD 0≠0->(l[m - 1]?).getD 0≠0)⟩
 case round =>
  obtain⟨k,F,Z,rfl,J⟩:=hrel
  by_cases C:k<9
  ·have c0:=o.out k C;have c1:=o.out (k - 1) (by omega)
   have q:Hid (¬((l[k]?).getD 0≠0/\(l[k - 1]?).getD 0=0)->∀m,2<=m->m<k+1->(l[m]?).getD 0≠0->(l[m - 1]?).getD 0≠0):=fun u m I X D N=>by
    rcases Nat.lt_or_ge m k with h | h
    ·exact J.out m I h D N
    ·have:m=k:=by omega
     subst this;exact u ⟨D,N⟩
   have A:Hid ((l[k]?).getD 0≠0/\(l[k - 1]?).getD 0=0->¬qaf l):=fun⟨T,U⟩ u=>u k F C T U
   have H:((k - 1:Nat):Int)=(k:Int) - 1:=by omega
   generalize (l[k]?).getD 0=x at c0 q A;generalize (l[k - 1]?).getD 0=y at c1 q A
   obtain⟨p,G⟩:∃p:Nat,k=p+1:=⟨k - 1,by omega⟩
   subst G;rw[show p+1 - 1=p by omega]at c1;clear H
   by_cases z:x=0
   ·have K:(x != 0)=false:=by simpa using z
    have s:Hid (∀m,2<=m->m<p+1+1->(l[m]?).getD 0≠0->(l[m - 1]?).getD 0≠0):=q.out (fun h=>h.1 z);clear q A z;go_wp2
    go_round
    case rel=>exact⟨p+1+1,by omega,by omega,by simp,s⟩
    case measure=>simp[intOf];omega
   ·have K:(x != 0)=true:=by simpa using z
    by_cases B:y=0
    ·have L:(y == 0)=true:=by simpa using B
     have t:Hid (r=true):=ky M.out (A.out ⟨z,B⟩);clear q A z B;go_wp2;go_ret;exact⟨by rw[t.out];rfl,E.out⟩
    ·have L:(y == 0)=false:=by simpa using B
     have s:Hid (∀m,2<=m->m<p+1+1->(l[m]?).getD 0≠0->(l[m - 1]?).getD 0≠0):=q.out (fun h=>B h.2);clear q A z B;go_wp2
     go_round
     case rel=>exact⟨p+1+1,by omega,by omega,by simp,s⟩
     case measure=>simp[intOf];omega
  ·obtain rfl:k=9:=by omega
   have t:Hid (r=false):=zb M.out (fun h=>absurd (fun k O F=>J.out k O F) h);go_wp2;go_ret;exact⟨by rw[t.out];rfl,E.out⟩
structure Kept (S:Nat->Prop) (w w':World):Prop where
 os:w'.os=w.os
 tape:w'.tape=w.tape
 output:w'.output=w.output
 size:w.heap.size<=w'.heap.size
 block:∀k,k<w.heap.size->¬S k->w'.heap[k]?=w.heap[k]?
theorem Kept.refl(S:Nat->Prop)(w:World):Kept S w w:=⟨rfl,rfl,rfl,Nat.le_refl _,fun _ _ _=>rfl⟩
theorem Kept.trans{S T:Nat->Prop}{a b c:World}(h:Kept S a b)(k:Kept T b c)(g:∀i,i<a.heap.size->T i->S i):Kept S a c :=
 ⟨k.os.trans h.os,k.tape.trans h.tape,k.output.trans h.output,Nat.le_trans h.size k.size,
  fun i d f=>(k.block i (Nat.lt_of_lt_of_le d h.size) (fun j=>f (g i d j))).trans (h.block i d f)⟩
theorem zk{S:Nat->Prop}{w a:World}(h:Below w.heap.size w a):Kept S w a:=⟨h.os,h.tape,h.output,h.size,fun k b _=>h.block k b⟩
theorem Kept.below{S:Nat->Prop}{w a:World}(h:Kept S w a){B:Nat}(d:B<=w.heap.size)(b:∀k,k<B->¬S k):Below B w a :=
 ⟨h.os,h.tape,h.output,h.size,fun k c=>h.block k (by omega) (b k c)⟩
theorem Kept.alloc{S:Nat->Prop}{a w:World}(h:Kept S a w)(o:Obj):Kept S a (w.alloc o) :=
 h.trans (T:=fun _=>False) (zk ((Below.refl _ _).alloc (Nat.le_refl _) _)) (fun _ _ f=>f.elim)
theorem Kept.drewN{S:Nat->Prop}{a w:World}(h:Kept S a w)(n:Nat):Kept S a (w.drewN n):=⟨h.os,h.tape,h.output,h.size,h.block⟩
theorem Kept.drew{S:Nat->Prop}{a w:World}(h:Kept S a w):Kept S a w.drew:=⟨h.os,h.tape,h.output,h.size,h.block⟩
theorem Kept.setCell{S:Nat->Prop}{a w:World}(h:Kept S a w)(p:Addr)(u:Value)(d:p.block<a.heap.size->S p.block):Kept S a (w.setCell p u) :=
 h.trans (T:=fun k=>k=p.block) ⟨rfl,rfl,rfl,by simp[World.setCell],fun k _ b=>Below.heap_setCell _ _ _ _ b⟩ (fun i c e=>by subst e;exact d c)
theorem qai{P:Program}(w:World)(t G e:TypeId)(i:TypeInfo)(z:Value)(d f:Nat)(L:P.underlying t=some (.slice e))(I:P.info? e=some i)(Q:i.zero=some z)(q:i.size=d)(x:i.bytes=f)(F:z.cells.size=d)(E:0<d)(v:Value)(n:Nat)(xs:List Value)(o:w.ownsRow 0 e d v n xs)(a:Addr)(m c:Nat)(b:List Value)(D:b.length=m * d)(l:∀j u,b[j]?=some u->w.cell? (a.add j)=some u)(M:∀u∈b,u.oneCell'=true)(s:n+m<=maxLen)(h:(n+m) * f<=140737488355328):
  ∃v' H,(Builtin.append_ #[t,t] G #[v,.slice (some a) m c]).run P w=.ok v' H/\H.ownsRow 0 e d v' (n+m) (xs++b)/\Kept (fun k=>v.ownBlock=some k) w H /\
   (∀k,v'.ownBlock=some k->v.ownBlock=some k\/w.heap.size<=k):=by
 obtain⟨v',H,J,R,A,-⟩:=run_append_own (P:=P) w 0 t G e i z d f L I Q q x F E v n xs o a m c b D l M s h (Nat.zero_le _);refine⟨v',H,J,R,⟨A.os,A.tape,A.output,A.size,fun k C O=>A.block k C (fun e=>O e.symm)⟩,fun k C=>?_⟩
 have K:n+m<=9223372036854775807:=by simp only[maxLen]at s;omega
 rcases o.2 with ⟨rfl,rfl⟩ | ⟨g,cap,cur,rfl,hbg,hg,hnc,hcm,hcs,htake⟩
 ·have S:xs=[]:=List.eq_nil_of_length_eq_zero (by simpa using o.1);subst S;obtain⟨v1,w1,p,N,-,-⟩:=run_append_own (P:=P) w w.heap.size t G e i z d f L I Q q x F E _ 0 [] (World.ownsRow_nil w _ e d) a m c b D l M s h (Nat.le_refl _);rw[J]at p
  injection p with e1 e2
  subst e1 e2;exact .inr (N.lt k C).1
 ·subst q x
  by_cases r:n+m<=cap
  ·have B:n * i.size+b.length<=cur.size:=by rw[D,hcs,<-Nat.add_mul];exact Nat.mul_le_mul_right _ r
   have p:=run_append_room (P:=P) w t G e i L I g n cap cur hg a m c b D l M r B;rw[J]at p
   injection p with e1 e2
   subst e1;exact .inl C
  ·have y:∀j u,xs[j]?=some u->w.cell? ((⟨g,0,none⟩:Addr).add j)=some u:=o.cells (g:=g) rfl;have p:=run_append_grow (P:=P) w t G e i z L I Q ⟨g,0,none⟩ n cap xs o.1 y a m c b D l (by omega) (by omega) (growslice_fits (by omega) h);rw[J]at p
   injection p with e1 e2
   subst e1;simp only[Value.ownBlock,Option.some.injEq]at C;exact .inr (by omega)
theorem qfl{P:Program}(w:World)(t u p e:TypeId)(i:TypeInfo)(y:P.underlying t=some (.slice e))(z:P.underlying u=some .string)(r:P.info? e=some i)(C:i.zero=some (.int .u8 0))(a:i.size=1)(d:i.bytes=1)(v:Value)(n:Nat)(xs:List Value)(b:w.ownsRow 0 e 1 v n xs)(s:ByteArray)(F:n+s.size<=100000000):
  ∃v' q,(Builtin.append_ #[t,u] p #[v,.string s]).run P w=.ok v' q/\q.ownsRow 0 e 1 v' (n+s.size) (xs++Lib.strCells s)/\Kept (fun k=>v.ownBlock=some k) w q /\
   (∀k,v'.ownBlock=some k->v.ownBlock=some k\/w.heap.size<=k):=by
 have m:n+s.size<=maxLen:=by unfold maxLen;omega
 obtain⟨v',q,x,D,l,-⟩:=Lib.run_append_own_string (P:=P) w 0 t u p e i y z r C a d v n xs b s m (by omega) (Nat.zero_le _);refine⟨v',q,x,D,⟨l.os,l.tape,l.output,l.size,fun k o B=>l.block k o (fun e=>B e.symm)⟩,fun k o=>?_⟩
 rcases b.2 with ⟨rfl,rfl⟩ | ⟨g,cap,cur,rfl,hbg,hg,hnc,hcm,hcs,htake⟩
 ·have E:xs=[]:=List.eq_nil_of_length_eq_zero (by simpa using b.1);subst E;obtain⟨v1,w1,c,A,-,-⟩:=Lib.run_append_own_string (P:=P) w w.heap.size t u p e i y z r C a d _ 0 [] (World.ownsRow_nil w _ e 1) s m (by omega) (Nat.le_refl _);rw[x]at c
  injection c with e1 e2
  subst e1 e2;exact .inr (A.lt k o).1
 ·by_cases h:n+s.size<=cap
  ·have c:=Lib.run_append_room_string (P:=P) w t u p e i y z r a g n cap cur hg s h (by rw[Nat.mul_one]at hcs;omega)
   rw[x]at c
   injection c with e1 e2
   subst e1;exact .inl o
  ·have f:∀j u,xs[j]?=some u->w.cell? ((⟨g,0,none⟩:Addr).add j)=some u:=b.cells (g:=g) rfl;have c:=Lib.run_append_grow_string (P:=P) w t u p e i (.int .u8 0) y z r C ⟨g,0,none⟩ n cap xs (by rw[a];simpa using b.1) f s (by omega) (by omega) (by rw[d];exact growslice_fits (by omega) (by omega))
   rw[x]at c
   injection c with e1 e2
   subst e1;simp only[Value.ownBlock,Option.some.injEq]at o;exact .inr (by omega)
structure Bld (w:World) (b:Nat) (v:Value) (l:List UInt8):Prop where
 head:∃p,w.heap[b]?=some (.cells #[.pointer p,v] 165 (0,0))/\(p=none\/p=some ⟨b,0,none⟩)
 own:w.ownsRow 0 5 1 v l.length (Lib.byteCells l)
 apart:v.ownBlock≠some b
def Foot (b:Nat) (v:Value) (k:Nat):Prop:=k=b\/v.ownBlock=some k
def za (w:World) (b:Nat) (v:Value) (w':World) (v':Value):Prop:=Kept (Foot b v) w w'/\∀k,v'.ownBlock=some k->v.ownBlock=some k\/w.heap.size<=k
theorem Bld.lt{w:World}{b:Nat}{v:Value}{l:List UInt8}(h:Bld w b v l):∀k,Foot b v k->k<w.heap.size:=by
 rintro k (rfl | a)
 ·obtain⟨p,c,-⟩:=h.head;exact(Array.getElem?_eq_some_iff.1 c).1
 ·exact(h.own.lt k a).2
theorem Bld.kept{w g:World}{S:Nat->Prop}{b:Nat}{v:Value}{l:List UInt8}(h:Bld w b v l)(f:Kept S w g)(c:∀k,Foot b v k->¬S k):Bld g b v l:=by
 obtain⟨p,j,a⟩:=h.head;exact⟨⟨p,by rw[f.block b (h.lt b (.inl rfl)) (c b (.inl rfl))];exact j,a⟩,qh h.own (fun i d=>f.block i (h.lt i (.inr d)) (c i (.inr d))),h.apart⟩
theorem Bld.below{w a:World}{b:Nat}{v:Value}{l:List UInt8}(h:Bld w b v l)(c:Below w.heap.size w a):Bld a b v l :=
 h.kept (S:=fun _=>False) (zk c) (fun _ _ f=>f)
theorem za.refl(w:World)(b:Nat)(v:Value):za w b v w v:=⟨Kept.refl _ _,fun _ h=>.inl h⟩
theorem za.trans{w w1 w2:World}{b:Nat}{v v1 v2:Value}(h:za w b v w1 v1)(k:za w1 b v1 w2 v2):za w b v w2 v2 :=
 ⟨h.1.trans k.1 (fun i c a=>by
   rcases a with a | a
   ·exact .inl a
   ·rcases h.2 i a with h1 | h1
    ·exact .inr h1
    ·omega),
  fun i c=>by
   rcases k.2 i c with h1 | h1
   ·exact h.2 i h1
   ·exact .inr (Nat.le_trans h.1.size h1)⟩
theorem za.of_below{w a:World}{b:Nat}{v:Value}(h:Below w.heap.size w a):za w b v a v:=⟨zk h,fun _ h=>.inl h⟩
theorem za.below{w a:World}{b:Nat}{v v':Value}(h:za w b v a v'){B:Nat}(c:B<=w.heap.size)(d:∀k,Foot b v k->B<=k):Below B w a :=
 h.1.below c (fun k g f=>by have:=d k f;omega)
def qf8 (ts:List Tk) (l:List Int) (r:Bool):Prop:=l.length=9/\(r=true↔∃l,levF ts=some l/\qaf l)/\(r=true->levF ts=some l)
theorem qf{w a:World}{b:Nat}{o:Obj}(c:Below w.heap.size w a)(h:w.heap[b]?=some o):a.heap[b]?=some o:=by
 rw[c.block b (Array.getElem?_eq_some_iff.1 h).1];exact h
structure LevM (ts:List Tk) (w wr:World) (k:Nat) (l:List Int):Prop where
 lev:levF (ts.take k)=some l
 res:wr.heap[w.heap.size]?=some (.cells (ar9 jl) 129 (0,0))
 arr:wr.heap[w.heap.size+1]?=some (.cells (ar9 l) 129 (0,0))
 bel:Below w.heap.size w wr
theorem qt(w:World)(o:Obj):(w.alloc o).heap.size=w.heap.size+1:=by simp
theorem LevM.step{ts:List Tk}{w wr a:World}{k:Nat}{l:List Int}(h:LevM ts w wr k l)(b:Below wr.heap.size wr a):LevM ts w a k l :=
 ⟨h.lev,qf b h.res,qf b h.arr,qd h.bel b⟩
theorem LevM.drew{ts:List Tk}{w wr:World}{k:Nat}{l:List Int}(h:LevM ts w wr k l):LevM ts w wr.drew k l:=⟨h.lev,h.res,h.arr,h.bel.drew⟩
theorem LevM.cell{ts:List Tk}{w wr:World}{k:Nat}{l:List Int}(h:LevM ts w wr k l){m:Nat}(a:m<9):wr.cell? ⟨w.heap.size+1,m,none⟩=some (.int .i64 ((l[m]?).getD 0)):=by
 rw[qe h.arr];exact qf7 (yj h.lev) a
theorem ql2(l:List Int)(m:Nat)(a:Int):(ar9 l).setIfInBounds m (.int .i64 a)=ar9 (l.set m a):=by
 unfold ar9;rw[List.setIfInBounds_toArray,List.map_set]
theorem LevM.put{ts:List Tk}{w wr:World}{k b m:Nat}{l:List Int}{a:Int}(h:LevM ts w wr k l)(c:levF (ts.take b)=some (l.set m a)):LevM ts w (wr.setCell ⟨w.heap.size+1,m,none⟩ (.int .i64 a)) b (l.set m a):=by
 refine⟨c,?_,?_,h.bel.setCell (p:=⟨w.heap.size+1,m,none⟩) (Nat.le_succ _) _⟩
 ·rw[Below.heap_setCell _ _ _ _ (by simp)];exact h.res
 ·rw[setCell_eq_setRow wr (w.heap.size+1) m _ 129 (0,0) _ h.arr,ql2];exact setRow_heap _ _ _ _ 129 _ h.arr
theorem qar(ts:List Tk)(ao:Option Addr)(n H:Nat)(w:World)(M:Row w 3 ao n H (tokC ts))(hn:n=ts.length)(a6:n<=1000):
  Calls Tryz.prog 104 #[.slice ao n H] w fun e w'=>∃(l:List Int) (r:Int),e=.returned (.tuple #[.agg (ar9 l),.bool (decide (r=1))])/\qf8 ts l (decide (r=1))/\Below w.heap.size w w':=by
 have HN:Hid (n=ts.length):=hn;have HR:Hid (Row w 3 ao n H (tokC ts)):=M;have a4:=M.le
 have a5:H<=9223372036854775807:=by have:=M.max;unfold maxLen at this;omega
 clear M hn;go_enter Tryz.func104,Tryz.ntmps104;go_wp2
 go_loopg [9] n (fun kx s9 wr=>∃k:Nat,s9=.int .i64 k/\k<=n/\n - k<=kx/\Hid (∃l,LevM ts w wr k l))
 case atStart=>exact⟨0,rfl,Nat.zero_le _,by omega,(⟨jl,rfl,qf (qb _ _) (heap_alloc_new _ _),by have:=heap_alloc_new (w.alloc (.cells (ar9 jl) 129)) (.cells (ar9 jl) 129);rw[qt]at this;exact this,qd (qb _ _) (qb _ _)⟩:∃l,LevM ts w _ 0 l)⟩
 case round =>
  obtain⟨k,rfl,hk,hg,J⟩:=hrel;obtain⟨l,JJ⟩:=J.out;have f:Hid (LevM ts w wr k l):=JJ;have L:=yj JJ.lev;clear J JJ
  by_cases a0:k<n
  ·obtain⟨t,ht⟩:∃t,ts[k]?=some t:=⟨ts[k]'(by rw[<-HN.out];exact a0),List.getElem?_eq_getElem _⟩
   obtain⟨b,o,rfl,c0,c1,c2⟩:=ja (HR.out.below f.out.bel) ht;have HT:Hid (ts[k]?=some t):=ht;obtain⟨E,A,g⟩:=t;simp only at c0 c1 c2;clear ht
   go_upto_region 5 with fail
   have D:Hid (LevM ts w (wr.alloc (.cells #[.string E,.int .i64 A,.int .i64 g] 58)) k l):=f.out.step (qb _ _)
   have Q:(wr.alloc (.cells #[.string E,.int .i64 A,.int .i64 g] 58)).cell? ⟨wr.heap.size,0,none⟩=some (.string E):=by rw[World.cell?_alloc_mark];rfl
   have I:(wr.alloc (.cells #[.string E,.int .i64 A,.int .i64 g] 58)).cell? ⟨wr.heap.size,1,none⟩=some (.int .i64 A):=by rw[World.cell?_alloc_mark];rfl
   have K:(wr.alloc (.cells #[.string E,.int .i64 A,.int .i64 g] 58)).cell? ⟨wr.heap.size,2,none⟩=some (.int .i64 g):=by rw[World.cell?_alloc_mark];rfl
   generalize wr.alloc (.cells #[.string E,.int .i64 A,.int .i64 g] 58)=O at D Q I K ⊢;generalize wr.heap.size=tb at Q I K ⊢
   have B:Hid (∀W:World,Calls Tryz.prog 116 #[.agg #[.string E,.int .i64 A,.int .i64 g]] W fun e w'=>e=.returned (.bool (levB ⟨E,A,g⟩))/\Below W.heap.size W w'):=fun W=>qhb ⟨E,A,g⟩ W
   clear c0 c1 c2 f;have g0:=kh Q;have g1:=kh I;have g2:=kh K
   by_cases N:LevP ⟨E,A,g⟩
   ·have hd:levB ⟨E,A,g⟩=true:=qaq.2 N;rw[hd]at B
    obtain⟨m,hm⟩:∃m:Nat,A=m:=⟨A.toNat,by rcases N with h | h <;> (simp only at h;omega)⟩
    subst hm
    have a1:m<9:=by rcases N with h | h <;> (simp only at h;omega)
    have R:=D.out.cell a1;have gx:=kh R
    have s:Hid (levF (ts.take (k+1))=if (l[m]?).getD 0=0\/(l[m]?).getD 0=g then some (l.set m g) else none):=by
     show _=_;rw[zn HT.out,qcd,D.out.lev];unfold levS at9;simp[N]
    generalize (l[m]?).getD 0=x at R gx s;clear N hd
    by_cases z:x=0
    ·have a2:(x != 0)=false:=by simpa using z
     have P:Hid (levF (ts.take (k+1))=some (l.set m g)):=by have:=s.out;rwa [if_pos (.inl z)]at this
     clear s z;refine zv (by kernel_rfl) ?_
     repeat (go_big_quiet_step (first | (go_at_call 116;exact j5 (B.out _))))
     refine wpQuiet_nil ?_;intro _ y;obtain⟨⟨nq,c⟩,u⟩:=y;subst u;have a:Hid (LevM ts w (onto O nq c) k l):=D.out.step (ke _ _ _);have I:=g1 nq c;have K:=g2 nq c;have R:=gx nq c;simp only;generalize onto O nq c=d at a I K R ⊢;clear g0 g1 g2 Q B D gx;have fx:d.frozen? ⟨w.heap.size+1,m,none⟩=false:=qi a.out.arr m;go_wp2;go_roundg (n - (k+1))
     case measure=>omega
     case rel=>exact⟨k+1,by simp,by omega,Nat.le_refl _,(⟨l.set m g,a.out.put P.out⟩:∃l,LevM ts w _ (k+1) l)⟩
    ·have a2:(x != 0)=true:=by simpa using z
     by_cases C:x=g
     ·have a3:(x != g)=false:=by simpa using C
      have P:Hid (levF (ts.take (k+1))=some (l.set m g)):=by have:=s.out;rwa [if_pos (.inr C)]at this
      clear s z C;refine zv (by kernel_rfl) ?_
      repeat (go_big_quiet_step (first | (go_at_call 116;exact j5 (B.out _))))
      refine wpQuiet_nil ?_;intro _ y;obtain⟨⟨nq,c⟩,u⟩:=y;subst u;have a:Hid (LevM ts w (onto O nq c) k l):=D.out.step (ke _ _ _);have I:=g1 nq c;have K:=g2 nq c;have R:=gx nq c;simp only;generalize onto O nq c=d at a I K R ⊢;clear g0 g1 g2 Q B D gx;have fx:d.frozen? ⟨w.heap.size+1,m,none⟩=false:=qi a.out.arr m;go_wp2;go_roundg (n - (k+1))
      case measure=>omega
      case rel=>exact⟨k+1,by simp,by omega,Nat.le_refl _,(⟨l.set m g,a.out.put P.out⟩:∃l,LevM ts w _ (k+1) l)⟩
     ·have a3:(x != g)=true:=by simpa using C
      have HF:Hid (levF ts=none):=qc8 (k:=k+1) (by have:=s.out;rwa [if_neg (fun h=>h.elim z C)]at this)
      clear s z C;refine zv (by kernel_rfl) ?_
      repeat (go_big_quiet_step (first | (go_at_call 116;exact j5 (B.out _))))
      refine wpQuiet_nil ?_;intro _ y;obtain⟨⟨nq,c⟩,u⟩:=y;subst u;have a:Hid (LevM ts w (onto O nq c) k l):=D.out.step (ke _ _ _);simp only;generalize onto O nq c=d at a ⊢;clear g0 g1 g2 Q I K B D gx R;have rc:∀j,d.frozen? ⟨w.heap.size,j,none⟩=false:=qi a.out.res;have r0:d.cell? ⟨w.heap.size,0,none⟩=some (.int .i64 0):=qe a.out.res 0;have r1:d.cell? ⟨w.heap.size,1,none⟩=some (.int .i64 0):=qe a.out.res 1;have r2:d.cell? ⟨w.heap.size,2,none⟩=some (.int .i64 0):=qe a.out.res 2;have r3:d.cell? ⟨w.heap.size,3,none⟩=some (.int .i64 0):=qe a.out.res 3;have r4:d.cell? ⟨w.heap.size,4,none⟩=some (.int .i64 0):=qe a.out.res 4;have r5:d.cell? ⟨w.heap.size,5,none⟩=some (.int .i64 0):=qe a.out.res 5;have r6:d.cell? ⟨w.heap.size,6,none⟩=some (.int .i64 0):=qe a.out.res 6;have r7:d.cell? ⟨w.heap.size,7,none⟩=some (.int .i64 0):=qe a.out.res 7;have r8:d.cell? ⟨w.heap.size,8,none⟩=some (.int .i64 0):=qe a.out.res 8;go_wp2;have F:Hid (Below w.heap.size w d):=a.out.bel;refine bodyPost_ret (v:=.tuple #[.agg (ar9 jl),.bool false]) (by simp[results,Tryz.results104,go_sem,r0,r1,r2,r3,r4,r5,r6,r7,r8,ar9,jl]) rfl ?_;refine⟨jl,0,rfl,⟨rfl,⟨fun h=>(by cases h),fun⟨l',h,_⟩=>(by rw[HF.out]at h;cases h)⟩,fun h=>(by cases h)⟩,?_⟩
      exact(((((((((F.out.setCell (p:=⟨w.heap.size,0,none⟩) (Nat.le_refl _) _).setCell (p:=⟨w.heap.size,1,none⟩) (Nat.le_refl _) _).setCell (p:=⟨w.heap.size,2,none⟩) (Nat.le_refl _) _).setCell (p:=⟨w.heap.size,3,none⟩) (Nat.le_refl _) _).setCell (p:=⟨w.heap.size,4,none⟩) (Nat.le_refl _) _).setCell (p:=⟨w.heap.size,5,none⟩) (Nat.le_refl _) _).setCell (p:=⟨w.heap.size,6,none⟩) (Nat.le_refl _) _).setCell (p:=⟨w.heap.size,7,none⟩) (Nat.le_refl _) _).setCell (p:=⟨w.heap.size,8,none⟩) (Nat.le_refl _) _)
   ·have hd:levB ⟨E,A,g⟩=false:=qpa N;rw[hd]at B;have HF:Hid (levF ts=none):=qc8 (k:=k+1) (by rw[zn HT.out,qcd,D.out.lev];unfold levS;simp[N])
    clear N hd;refine zv (by kernel_rfl) ?_
    repeat (go_big_quiet_step (first | (go_at_call 116;exact j5 (B.out _))))
    refine wpQuiet_nil ?_;intro _ y;obtain⟨⟨nq,c⟩,u⟩:=y;subst u;have a:Hid (LevM ts w (onto O nq c) k l):=D.out.step (ke _ _ _);simp only;generalize onto O nq c=d at a ⊢;clear g0 g1 g2 Q I K B D;have rc:∀j,d.frozen? ⟨w.heap.size,j,none⟩=false:=qi a.out.res;have r0:d.cell? ⟨w.heap.size,0,none⟩=some (.int .i64 0):=qe a.out.res 0;have r1:d.cell? ⟨w.heap.size,1,none⟩=some (.int .i64 0):=qe a.out.res 1;have r2:d.cell? ⟨w.heap.size,2,none⟩=some (.int .i64 0):=qe a.out.res 2;have r3:d.cell? ⟨w.heap.size,3,none⟩=some (.int .i64 0):=qe a.out.res 3;have r4:d.cell? ⟨w.heap.size,4,none⟩=some (.int .i64 0):=qe a.out.res 4;have r5:d.cell? ⟨w.heap.size,5,none⟩=some (.int .i64 0):=qe a.out.res 5;have r6:d.cell? ⟨w.heap.size,6,none⟩=some (.int .i64 0):=qe a.out.res 6;have r7:d.cell? ⟨w.heap.size,7,none⟩=some (.int .i64 0):=qe a.out.res 7;have r8:d.cell? ⟨w.heap.size,8,none⟩=some (.int .i64 0):=qe a.out.res 8;go_wp2;have F:Hid (Below w.heap.size w d):=a.out.bel;refine bodyPost_ret (v:=.tuple #[.agg (ar9 jl),.bool false]) (by simp[results,Tryz.results104,go_sem,r0,r1,r2,r3,r4,r5,r6,r7,r8,ar9,jl]) rfl ?_;refine⟨jl,0,rfl,⟨rfl,⟨fun h=>(by cases h),fun⟨l',h,_⟩=>(by rw[HF.out]at h;cases h)⟩,fun h=>(by cases h)⟩,?_⟩
    exact(((((((((F.out.setCell (p:=⟨w.heap.size,0,none⟩) (Nat.le_refl _) _).setCell (p:=⟨w.heap.size,1,none⟩) (Nat.le_refl _) _).setCell (p:=⟨w.heap.size,2,none⟩) (Nat.le_refl _) _).setCell (p:=⟨w.heap.size,3,none⟩) (Nat.le_refl _) _).setCell (p:=⟨w.heap.size,4,none⟩) (Nat.le_refl _) _).setCell (p:=⟨w.heap.size,5,none⟩) (Nat.le_refl _) _).setCell (p:=⟨w.heap.size,6,none⟩) (Nat.le_refl _) _).setCell (p:=⟨w.heap.size,7,none⟩) (Nat.le_refl _) _).setCell (p:=⟨w.heap.size,8,none⟩) (Nat.le_refl _) _)
  ·obtain rfl:k=n:=by omega
   have G:Hid (levF ts=some l):=by have:=f.out.lev;rwa [HN.out,List.take_length]at this
   obtain⟨r,M⟩:=zr (¬qaf l)
   have B:Hid (∀W:World,Calls Tryz.prog 117 #[.agg (ar9 l)] W fun e w'=>e=.returned (.bool r)/\Below W.heap.size W w'):=fun W=>qnu l L r M W
   have HO:Hid (qf8 ts l (!r)):=⟨L,⟨fun h=>⟨l,G.out,(by rcases Classical.em (qaf l) with h1 | h1;exact h1;rw[ky M h1]at h;cases h)⟩,fun⟨l',h1,h2⟩=>(by rw[G.out]at h1;cases h1;rw[zb M (fun h=>h h2)];rfl)⟩,fun _=>G.out⟩
   clear M G
   go_upto_region 9 with fail
   obtain⟨S,T,U,V,X,Y,Z,xi,xj,rfl⟩:=nine L;have hA:ar9 [S,T,U,V,X,Y,Z,xi,xj]=#[.int .i64 S,.int .i64 T,.int .i64 U,.int .i64 V,.int .i64 X,.int .i64 Y,.int .i64 Z,.int .i64 xi,.int .i64 xj]:=rfl;rw[hA]at B;have rz:∀j,wr.frozen? ⟨w.heap.size,j,none⟩=false:=qi f.out.res;have r0:wr.cell? ⟨w.heap.size,0,none⟩=some (.int .i64 0):=qe f.out.res 0;have q0:wr.cell? ⟨w.heap.size+1,0,none⟩=some (.int .i64 S):=qe f.out.arr 0;have r1:wr.cell? ⟨w.heap.size,1,none⟩=some (.int .i64 0):=qe f.out.res 1;have q1:wr.cell? ⟨w.heap.size+1,1,none⟩=some (.int .i64 T):=qe f.out.arr 1;have r2:wr.cell? ⟨w.heap.size,2,none⟩=some (.int .i64 0):=qe f.out.res 2;have q2:wr.cell? ⟨w.heap.size+1,2,none⟩=some (.int .i64 U):=qe f.out.arr 2;have r3:wr.cell? ⟨w.heap.size,3,none⟩=some (.int .i64 0):=qe f.out.res 3;have q3:wr.cell? ⟨w.heap.size+1,3,none⟩=some (.int .i64 V):=qe f.out.arr 3;have r4:wr.cell? ⟨w.heap.size,4,none⟩=some (.int .i64 0):=qe f.out.res 4;have q4:wr.cell? ⟨w.heap.size+1,4,none⟩=some (.int .i64 X):=qe f.out.arr 4;have r5:wr.cell? ⟨w.heap.size,5,none⟩=some (.int .i64 0):=qe f.out.res 5;have q5:wr.cell? ⟨w.heap.size+1,5,none⟩=some (.int .i64 Y):=qe f.out.arr 5;have r6:wr.cell? ⟨w.heap.size,6,none⟩=some (.int .i64 0):=qe f.out.res 6;have q6:wr.cell? ⟨w.heap.size+1,6,none⟩=some (.int .i64 Z):=qe f.out.arr 6;have r7:wr.cell? ⟨w.heap.size,7,none⟩=some (.int .i64 0):=qe f.out.res 7;have q7:wr.cell? ⟨w.heap.size+1,7,none⟩=some (.int .i64 xi):=qe f.out.arr 7;have r8:wr.cell? ⟨w.heap.size,8,none⟩=some (.int .i64 0):=qe f.out.res 8;have q8:wr.cell? ⟨w.heap.size+1,8,none⟩=some (.int .i64 xj):=qe f.out.arr 8;clear L HR hA
   go_region_with(go_at_call 117;refine(B.out _).mono ?_;rintro e i ⟨rfl,hB⟩;have q:Hid (LevM ts w i k [S,T,U,V,X,Y,Z,xi,xj]):=f.out.drew.step hB;clear hB;have rz:∀j,i.frozen? ⟨w.heap.size,j,none⟩=false:=qi q.out.res;have r0:i.cell? ⟨w.heap.size,0,none⟩=some (.int .i64 0):=qe q.out.res 0;have q0:i.cell? ⟨w.heap.size+1,0,none⟩=some (.int .i64 S):=qe q.out.arr 0;have r1:i.cell? ⟨w.heap.size,1,none⟩=some (.int .i64 0):=qe q.out.res 1;have q1:i.cell? ⟨w.heap.size+1,1,none⟩=some (.int .i64 T):=qe q.out.arr 1;have r2:i.cell? ⟨w.heap.size,2,none⟩=some (.int .i64 0):=qe q.out.res 2;have q2:i.cell? ⟨w.heap.size+1,2,none⟩=some (.int .i64 U):=qe q.out.arr 2;have r3:i.cell? ⟨w.heap.size,3,none⟩=some (.int .i64 0):=qe q.out.res 3;have q3:i.cell? ⟨w.heap.size+1,3,none⟩=some (.int .i64 V):=qe q.out.arr 3;have r4:i.cell? ⟨w.heap.size,4,none⟩=some (.int .i64 0):=qe q.out.res 4;have q4:i.cell? ⟨w.heap.size+1,4,none⟩=some (.int .i64 X):=qe q.out.arr 4;have r5:i.cell? ⟨w.heap.size,5,none⟩=some (.int .i64 0):=qe q.out.res 5;have q5:i.cell? ⟨w.heap.size+1,5,none⟩=some (.int .i64 Y):=qe q.out.arr 5;have r6:i.cell? ⟨w.heap.size,6,none⟩=some (.int .i64 0):=qe q.out.res 6;have q6:i.cell? ⟨w.heap.size+1,6,none⟩=some (.int .i64 Z):=qe q.out.arr 6;have r7:i.cell? ⟨w.heap.size,7,none⟩=some (.int .i64 0):=qe q.out.res 7;have q7:i.cell? ⟨w.heap.size+1,7,none⟩=some (.int .i64 xi):=qe q.out.arr 7;have r8:i.cell? ⟨w.heap.size,8,none⟩=some (.int .i64 0):=qe q.out.res 8;have q8:i.cell? ⟨w.heap.size+1,8,none⟩=some (.int .i64 xj):=qe q.out.arr 8)
   all_goals
    obtain⟨ri,HI⟩:∃ri:Int,Hid (decide (ri=1)=!r):=by
     cases r
     ·exact⟨1,rfl⟩
     ·exact⟨0,rfl⟩
    have F:Hid (Below w.heap.size w i):=q.out.bel;go_wp2;refine bodyPost_ret (v:=.tuple #[.agg (ar9 [S,T,U,V,X,Y,Z,xi,xj]),.bool (!r)]) (by simp[results,Tryz.results104,go_sem,r0,r1,r2,r3,r4,r5,r6,r7,r8,ar9]) rfl ?_;exact⟨[S,T,U,V,X,Y,Z,xi,xj],ri,by rw[HI.out],by rw[HI.out];exact HO.out,(((((((((F.out.setCell (p:=⟨w.heap.size,0,none⟩) (Nat.le_refl _) _).setCell (p:=⟨w.heap.size,1,none⟩) (Nat.le_refl _) _).setCell (p:=⟨w.heap.size,2,none⟩) (Nat.le_refl _) _).setCell (p:=⟨w.heap.size,3,none⟩) (Nat.le_refl _) _).setCell (p:=⟨w.heap.size,4,none⟩) (Nat.le_refl _) _).setCell (p:=⟨w.heap.size,5,none⟩) (Nat.le_refl _) _).setCell (p:=⟨w.heap.size,6,none⟩) (Nat.le_refl _) _).setCell (p:=⟨w.heap.size,7,none⟩) (Nat.le_refl _) _).setCell (p:=⟨w.heap.size,8,none⟩) (Nat.le_refl _) _)⟩
def wdC (ws:List Wd):List Value:=ws.flatMap fun x=>[.int .i64 x.k,.string x.t,.int .i64 x.a]
def rtC (ts:List (Tk × Bool)):List Value:=ts.flatMap fun x=>[.string x.1.n,.int .i64 x.1.l,.int .i64 x.1.a,.bool x.2]
structure RHd where
 wb:Nat
 wo:Nat
 wc:Nat
 ta:Option Addr
 tc:Nat
 ra:Option Addr
 rc:Nat
def rdC (h:RHd) (S:St):Array Value:=#[.slice (some ⟨h.wb,h.wo,none⟩) S.ws.length h.wc,.slice h.ta S.ts.length h.tc,.int .i64 S.lv,.string S.st,.bool S.ed,.int .i64 S.ex,.slice h.ra S.rs.length h.rc]
def OwnT (w:World) (base:Nat) (v:Value) (l:List ByteArray):Prop:=w.ownsRow base 9 1 v l.length (strC l)
structure RD (w W:World) (rb:Nat) (h:RHd) (S:St) (qs:List (Ru × Option Addr × Nat)):Prop where
 box:W.heap[rb]?=some (.cells (rdC h S) 139 (0,0))
 wds:Row w 3 (some ⟨h.wb,h.wo,none⟩) S.ws.length h.wc (wdC S.ws)
 tok:W.ownsRow w.heap.size 153 4 (.slice h.ta S.ts.length h.tc) S.ts.length (rtC (S.ts.zip S.ls))
 rul:W.ownsRow w.heap.size 55 3 (.slice h.ra S.rs.length h.rc) S.rs.length (rulC qs)
 map:qs.map (·.1)=S.rs
 row:∀q∈qs,OwnT W w.heap.size (.slice q.2.1 q.1.r.length q.2.2) q.1.r
 bel:Below w.heap.size w W
 new:w.heap.size<=rb
 ok:StOk S
theorem OwnT.below{w b:World}{a:Nat}{v:Value}{l:List ByteArray}(o:OwnT w a v l)(c:Below w.heap.size w b):OwnT b a v l :=
 qh o (fun i d=>c.block i (World.ownsRow.lt o i d).2)
theorem RD.step{w W c:World}{d:Nat}{h:RHd}{S:St}{qs:List (Ru × Option Addr × Nat)}(r:RD w W d h S qs)(a:Below W.heap.size W c):RD w c d h S qs :=
 ⟨qf a r.box,r.wds,qh r.tok (fun i b=>a.block i (World.ownsRow.lt r.tok i b).2),qh r.rul (fun i b=>a.block i (World.ownsRow.lt r.rul i b).2),r.map,fun q f=>(r.row q f).below a,qd r.bel a,r.new,r.ok⟩
def wv (w:Wd):Value:=.agg #[.int .i64 w.k,.string w.t,.int .i64 w.a]
def fv (f:Flt):Value:=.agg #[.int .i64 f.1,.int .i64 f.2]
theorem RD.head{w W:World}{i:Nat}{h:RHd}{S:St}{qs:List (Ru × Option Addr × Nat)}(r:RD w W i h S qs):
  W.cell? ⟨h.wb,h.wo,none⟩=some (.int .i64 S.hd.k)/\W.cell? ⟨h.wb,h.wo+1,none⟩=some (.string S.hd.t)/\W.cell? ⟨h.wb,h.wo+2,none⟩=some (.int .i64 S.hd.a):=by
 obtain⟨x,g⟩:=r.ok.ends.head;have f:=r.wds.below r.bel;obtain⟨b,o,d,c⟩:=f.at (by have:=r.ok.ends.pos;omega)
 cases d
 have e:wdC S.ws=[.int .i64 S.hd.k,.string S.hd.t,.int .i64 S.hd.a]++wdC x:=by
  conv=>lhs;rw[g]
  rfl
 rw[e]at c;exact⟨c 0 _ rfl,c 1 _ rfl,c 2 _ rfl⟩
theorem RD.lens{w W:World}{b:Nat}{h:RHd}{S:St}{qs:List (Ru × Option Addr × Nat)}(r:RD w W b h S qs):1<=S.ws.length/\S.ws.length<=h.wc/\h.wc<=9223372036854775807:=by
 have c:=r.wds.le;have a:=r.wds.max;have d:=r.ok.ends.pos;unfold maxLen at a;omega
theorem kp(w W:World)(b:Nat)(h:RHd)(S:St)(qs:List (Ru × Option Addr × Nat))(r:RD w W b h S qs):
  Calls Tryz.prog 123 #[.pointer (some ⟨b,0,none⟩)] W fun e c=>e=.returned (wv S.hd)/\Below W.heap.size W c:=by
 obtain⟨c0,c1,c2⟩:=r.head;obtain⟨j,l,m⟩:=r.lens
 have a:W.cell? ⟨b,0,none⟩=some (.slice (some ⟨h.wb,h.wo,none⟩) S.ws.length h.wc):=by rw[qe r.box];rfl
 obtain⟨z,A,wc,u,y,s,t⟩:=h;simp only at c0 c1 c2 j l m a
 generalize S.hd=x at *
 obtain⟨p,q,o⟩:=x;simp only at c0 c1 c2;unfold wv;simp only
 generalize S.ws.length=n at *
 have f:=qo c0;have g:=qo c1;have i:=qo c2;have d:=qo a;clear r c0 c1 c2 a
 have k:(0:Int)<(n:Int):=by omega
 go_enter Tryz.func123,Tryz.ntmps123;go_wp2_with fail;refine bodyPost_ret (v:=.agg #[.int .i64 p,.string q,.int .i64 o]) (by simp[results,Tryz.results123,go_sem, *]) rfl ?_;exact⟨rfl,qb _ _⟩
theorem RD.next{w W:World}{f:Nat}{h:RHd}{S:St}{qs:List (Ru × Option Addr × Nat)}(r:RD w W f h S qs)(F:Ends S.ws.tail):
  RD w (W.setCell ⟨f,0,none⟩ (.slice (some ⟨h.wb,h.wo+3,none⟩) (S.ws.length - 1) (h.wc - 1))) f ⟨h.wb,h.wo+3,h.wc - 1,h.ta,h.tc,h.ra,h.rc⟩ S.next qs:=by
 have J:=j4 r.ok
 have G:S.next.ws.length=S.ws.length - 1:=by omega
 obtain⟨K,L,M⟩:=r.lens
 have d:∀{E k n:Nat} {v:Value} {cs:List Value},W.ownsRow w.heap.size E k v n cs->E≠139->(W.setCell ⟨f,0,none⟩ (.slice (some ⟨h.wb,h.wo+3,none⟩) (S.ws.length - 1) (h.wc - 1))).ownsRow w.heap.size E k v n cs:=by
  intro E k n v cs z B;refine qh z (fun i m=>Below.heap_setCell _ _ _ _ (fun e=>?_));simp only at e;subst e
  rcases z.2 with ⟨rfl,-⟩ | ⟨g,c,cur,rfl,-,hh,-⟩
  ·cases m
  ·simp only[Value.ownBlock,Option.some.injEq]at m;subst m;rw[r.box]at hh;simp only[Option.some.injEq,Obj.cells.injEq]at hh;exact B hh.2.1.symm
 refine⟨?_,?_,d r.tok (by decide),d r.rul (by decide),r.map,fun q H=>d (r.row q H) (by decide),r.bel.setCell (p:=⟨f,0,none⟩) r.new _,r.new,r.ok.next F⟩
 ·rw[setCell_eq_setRow W f 0 _ 139 (0,0) _ r.box]
  have e:(rdC h S).setIfInBounds 0 (.slice (some ⟨h.wb,h.wo+3,none⟩) (S.ws.length - 1) (h.wc - 1))=rdC ⟨h.wb,h.wo+3,h.wc - 1,h.ta,h.tc,h.ra,h.rc⟩ S.next:=by
   unfold rdC;rw[G];rfl
  rw[e];exact setRow_heap _ _ _ _ 139 _ r.box
 ·obtain⟨x,s⟩:=r.ok.ends.head;have y:=r.wds.len
  have l:S.next.ws=x:=by show S.ws.tail=x;rw[s];rfl
  have I:S.ws.length=x.length+1:=by rw[s];rfl
  refine⟨?_,?_,?_,?_⟩
  ·rw[l];unfold wdC;rw[qah _ (fun _=>rfl)]
  ·simp only;omega
  ·simp only;unfold maxLen;omega
  ·refine .inr ⟨h.wb,h.wo+3,rfl,fun j u A=>?_⟩;obtain⟨b,o,C,D⟩:=r.wds.at (by omega)
   cases C
   rw[show h.wo+3+j=h.wo+(3+j) by omega];refine D (3+j) u ?_;rw[l]at A
   have e:wdC S.ws=[.int .i64 S.hd.k,.string S.hd.t,.int .i64 S.hd.a]++wdC x:=by
    conv=>lhs;rw[s]
    rfl
   rw[e,List.getElem?_append_right (by simp)]
   simpa using A
theorem qb1(w W:World)(a:Nat)(h:RHd)(S:St)(qs:List (Ru × Option Addr × Nat))(r:RD w W a h S qs)(b:Ends S.ws.tail):
  Calls Tryz.prog 136 #[.pointer (some ⟨a,0,none⟩)] W fun e c=>e=.returned (.tuple #[])/\c=W.setCell ⟨a,0,none⟩ (.slice (some ⟨h.wb,h.wo+3,none⟩) (S.ws.length - 1) (h.wc - 1)):=by
 obtain⟨f,i,k⟩:=r.lens
 have q:2<=S.ws.length:=by
  have m:=j4 r.ok;have o:=b.pos;have p:S.next.ws.length=S.ws.tail.length:=rfl;omega
 have d:W.cell? ⟨a,0,none⟩=some (.slice (some ⟨h.wb,h.wo,none⟩) S.ws.length h.wc):=by rw[qe r.box];rfl
 have l:W.frozen? ⟨a,0,none⟩=false:=qi r.box 0;obtain⟨y,z,wc,v,x,t,u⟩:=h;simp only at f i k d;simp only
 generalize S.ws.length=n at *
 clear r b
 have g:(1:Int)<=(n:Int):=by omega
 have j:(n:Int)<=(wc:Int):=by omega
 have s:wc≠1:=by omega
 go_enter Tryz.func136,Tryz.ntmps136;go_wp2_with fail;go_end0;exact⟨rfl,rfl⟩
def One (rb:Nat) (k:Nat):Prop:=k=rb
def Went (w W:World) (rb:Nat) (S:St) (qs:List (Ru × Option Addr × Nat)) (W':World):Prop:=(∃h,RD w W' rb h S qs/\∀h0 S0,RD w W rb h0 S0 qs->h.ta=h0.ta/\h.ra=h0.ra)/\Kept (One rb) W W'
theorem Went.rd{w W a:World}{b:Nat}{S:St}{qs:List (Ru × Option Addr × Nat)}(r:Went w W b S qs a):∃h,RD w a b h S qs:=by
 obtain⟨⟨h,r,-⟩,-⟩:=r;exact⟨h,r⟩
theorem qcw{w W:World}{g:Nat}{h b:RHd}{S i:St}{qs c:List (Ru × Option Addr × Nat)}(r:RD w W g h S qs)(j:RD w W g b i c):h.ta=b.ta/\h.ra=b.ra:=by
 have e:=r.box.symm.trans j.box;simp only[Option.some.injEq,Obj.cells.injEq]at e;have d:=congrArg (fun a:Array Value=>a[1]?) e.1;have f:=congrArg (fun a:Array Value=>a[6]?) e.1;simp[rdC]at d f;exact⟨d.1,f.1⟩
theorem Went.stay{w W a:World}{c:Nat}{h:RHd}{S:St}{qs:List (Ru × Option Addr × Nat)}(r:RD w W c h S qs)(b:Below W.heap.size W a):Went w W c S qs a:=⟨⟨h,r.step b,fun _ _ d=>qcw r d⟩,zk b⟩
def Loc (W:World) (b T:Nat):Prop:=∃c,W.heap[b]?=some (.cells c T (0,0))
theorem Loc.set{W:World}{b T:Nat}(h:Loc W b T)(b' j:Nat)(u:Value):Loc (W.setCell ⟨b',j,none⟩ u) b T:=by
 obtain⟨c,a⟩:=h
 by_cases e:b=b'
 ·subst e;exact⟨_,by rw[setCell_eq_setRow W b j _ T (0,0) _ a];exact setRow_heap _ _ _ _ T _ a⟩
 ·exact⟨c,by rw[Below.heap_setCell _ _ _ _ e];exact a⟩
theorem RD.far{w W:World}{s b j T:Nat}{h:RHd}{S:St}{qs:List (Ru × Option Addr × Nat)}{u:Value}(r:RD w W s h S qs)(f:Loc W b T)(d:T≠139/\T≠153/\T≠55/\T≠9)(y:w.heap.size<=b):RD w (W.setCell ⟨b,j,none⟩ u) s h S qs:=by
 obtain⟨c,f⟩:=f
 have a:∀{E k n:Nat} {v:Value} {cs:List Value},W.ownsRow w.heap.size E k v n cs->E≠T->(W.setCell ⟨b,j,none⟩ u).ownsRow w.heap.size E k v n cs:=by
  intro E k n v cs o t;refine qh o (fun i m=>Below.heap_setCell _ _ _ _ (fun e=>?_));simp only at e;subst e
  rcases o.2 with ⟨rfl,-⟩ | ⟨g,c,cur,rfl,-,hh,-⟩
  ·cases m
  ·simp only[Value.ownBlock,Option.some.injEq]at m;subst m;rw[f]at hh;simp only[Option.some.injEq,Obj.cells.injEq]at hh;exact t hh.2.1.symm
 refine⟨?_,r.wds,a r.tok (Ne.symm d.2.1),a r.rul (Ne.symm d.2.2.1),r.map,fun q x=>a (r.row q x) (Ne.symm d.2.2.2),r.bel.setCell (p:=⟨b,j,none⟩) y _,r.new,r.ok⟩;rw[Below.heap_setCell _ _ _ _ (fun e=>?_)]
 ·exact r.box
 ·have l:=r.box;rw[e,f]at l;simp only[Option.some.injEq,Obj.cells.injEq]at l;exact d.1 l.2.1
theorem Went.far{w W a:World}{d b j T:Nat}{S:St}{qs:List (Ru × Option Addr × Nat)}{u:Value}(r:Went w W d S qs a)(g:Loc a b T)(f:T≠139/\T≠153/\T≠55/\T≠9)(l:w.heap.size<=W.heap.size)(i:W.heap.size<=b):Went w W d S qs (a.setCell ⟨b,j,none⟩ u):=by
 obtain⟨⟨h,r,e⟩,k⟩:=r;exact⟨⟨h,r.far g f (by omega),e⟩,k.setCell _ _ (fun c=>by simp only at c;omega)⟩
theorem jo(x:Wd)(W:World):Calls Tryz.prog 142 #[wv x] W fun e c=>e=.returned (fv (zj x))/\Below W.heap.size W c:=by
 obtain⟨f,g,d⟩:=x;unfold wv fv zj;simp only
 have b:Hid (∀o a:Obj,Below W.heap.size W ((W.alloc o).alloc a)):=fun o a=>qd (qb _ _) (qb _ _)
 go_enter Tryz.func142,Tryz.ntmps142;go_wp2_with fail;refine bodyPost_ret (v:=.agg #[.int .i64 1,.int .i64 d]) (by simp[results,Tryz.results142,go_sem, *]) rfl ?_;exact⟨rfl,b.out _ _⟩
theorem qaz(x:Wd)(W:World):Calls Tryz.prog 157 #[wv x] W fun e c=>e=.returned (fv (jb x))/\Below W.heap.size W c:=by
 obtain⟨f,g,d⟩:=x;unfold wv fv jb;simp only
 have b:Hid (∀o a:Obj,Below W.heap.size W ((W.alloc o).alloc a)):=fun o a=>qd (qb _ _) (qb _ _)
 go_enter Tryz.func157,Tryz.ntmps157;go_wp2_with fail;refine bodyPost_ret (v:=.agg #[.int .i64 7,.int .i64 d]) (by simp[results,Tryz.results157,go_sem, *]) rfl ?_;exact⟨rfl,b.out _ _⟩
theorem qf9(k a:Int)(t:ByteArray)(W:World):(Instr.field 149 (.agg #[.int .i64 k,.string t,.int .i64 a]) 0).run Tryz.prog W=.ok (.int .i64 k) W:=by kernel_rfl
theorem qjr(k a:Int)(t:ByteArray)(W:World):(Instr.field 149 (.agg #[.int .i64 k,.string t,.int .i64 a]) 1).run Tryz.prog W=.ok (.string t) W:=by kernel_rfl
def qaj (t:ByteArray) (S:St):St:=if S.hd.t=t then S.next else S
theorem qak(t:ByteArray)(D:t≠⟨#[]⟩)(w W:World)(d:Nat)(h:RHd)(S:St)(qs:List (Ru × Option Addr × Nat))(r:RD w W d h S qs)(b:Bool)(y:b=true↔S.hd.t=t):
  Calls Tryz.prog 121 #[.pointer (some ⟨d,0,none⟩),.string t] W fun e u=>e=.returned (.bool b)/\Went w W d (qaj t S) qs u:=by
 have H1:Hid (Calls Tryz.prog 123 #[.pointer (some ⟨d,0,none⟩)] W fun e u=>e=.returned (wv S.hd)/\Below W.heap.size W u):=kp w W d h S qs r;have k:Hid (RD w W d h S qs):=r;unfold wv at H1;have j:Hid (b=true↔S.hd.t=t):=y;clear r y
 generalize z:S.hd=x at *
 obtain⟨o,i,n⟩:=x;simp only at H1 j;have s:Hid (S.hd=⟨o,i,n⟩):=z;clear z
 cases b
 ·have g:i≠t:=fun e=>by have:=j.out.2 e;cases this
  have C:=k9 g
  have p:Hid (qaj t S=S):=by
   show _=_;unfold qaj;rw[if_neg (by rw[s.out];exact g)]
  clear g j;have B:=qjr o n i;go_enter Tryz.func121,Tryz.ntmps121;go_wp2_with fail;refine H1.out.mono ?_;rintro e m ⟨rfl,l⟩;have a:Hid (Below W.heap.size W m):=l;clear l;go_wp2_with fail;go_ret;refine⟨rfl,?_⟩;rw[p.out];exact Went.stay k.out a.out
 ·have c:i=t:=j.out.1 rfl;have C:=xh c;have v:Hid (Ends S.ws.tail):=(k.out.ok.ends.tail_of_text (by rw[show yv S.ws=⟨o,i,n⟩ from s.out];simp only;rw[c];exact D)).2
  have p:Hid (qaj t S=S.next):=by
   show _=_;unfold qaj;rw[if_pos (by rw[s.out];exact c)]
  clear c j;have B:=qjr o n i;go_enter Tryz.func121,Tryz.ntmps121;go_wp2_with fail;refine H1.out.mono ?_;rintro e m ⟨rfl,l⟩;have a:Hid (Below W.heap.size W m):=l;clear l;go_wp2_with fail;refine(qb1 w m d h S qs (k.out.step a.out) v.out).mono ?_;rintro e A ⟨rfl,f⟩
  have q:Hid (Went w W d S.next qs A):=by
   refine⟨⟨⟨h.wb,h.wo+3,h.wc - 1,h.ta,h.tc,h.ra,h.rc⟩,by rw[f];exact(k.out.step a.out).next v.out,fun _ _ E=>by have e:=qcw k.out E;exact e⟩,?_⟩
   rw[f];exact(zk a.out).setCell ⟨d,0,none⟩ _ (fun _=>rfl)
  clear f;go_wp2_with fail;go_ret;refine⟨rfl,?_⟩;rw[p.out];exact q.out
def takeS (k:Int) (S:St):St:=if S.hd.k=k then S.next else S
def takeW (k:Int) (S:St):Wd:=if S.hd.k=k then S.hd else ⟨0,⟨#[]⟩,0⟩
def jp (k:Int) (S:St):Flt:=if S.hd.k=k then (0,0) else zj S.hd
theorem jx(k:Int)(U:k≠5)(w W:World)(g:Nat)(h:RHd)(S:St)(qs:List (Ru × Option Addr × Nat))(r:RD w W g h S qs):
  Calls Tryz.prog 143 #[.pointer (some ⟨g,0,none⟩),.int .i64 k] W fun e O=>e=.returned (.tuple #[wv (takeW k S),fv (jp k S)])/\Went w W g (takeS k S) qs O:=by
 have K:Hid (∀V:World,Below W.heap.size W V->RD w V g h S qs):=fun V T=>r.step T
 have H1:Hid (∀V:World,Below W.heap.size W V->Calls Tryz.prog 123 #[.pointer (some ⟨g,0,none⟩)] V fun e O=>e=.returned (wv S.hd)/\Below V.heap.size V O):=fun V T=>kp w V g h S qs (r.step T)
 have J:Hid (Below W.heap.size W ((W.alloc (.cells #[.int .i64 0,.string ⟨#[]⟩,.int .i64 0] 149)).alloc (.cells #[.int .i64 0,.int .i64 0] 125))):=qd (qb _ _) (qb _ _);have p:((W.alloc (.cells #[.int .i64 0,.string ⟨#[]⟩,.int .i64 0] 149)).alloc (.cells #[.int .i64 0,.int .i64 0] 125)).heap[W.heap.size]?=some (.cells #[.int .i64 0,.string ⟨#[]⟩,.int .i64 0] 149 (0,0)):=qf (qb _ _) (heap_alloc_new _ _)
 have q:((W.alloc (.cells #[.int .i64 0,.string ⟨#[]⟩,.int .i64 0] 149)).alloc (.cells #[.int .i64 0,.int .i64 0] 125)).heap[W.heap.size+1]?=some (.cells #[.int .i64 0,.int .i64 0] 125 (0,0)):=by
  have:=heap_alloc_new (W.alloc (.cells #[.int .i64 0,.string ⟨#[]⟩,.int .i64 0] 149)) (.cells #[.int .i64 0,.int .i64 0] 125)
  rwa [qt]at this
 have H:g<W.heap.size:=(Array.getElem?_eq_some_iff.1 r.box).1;have HQ:Hid (StOk S):=r.ok;have d:Hid (w.heap.size<=W.heap.size):=r.bel.size;clear r
 generalize Y:S.hd=x at *
 obtain⟨i,n,l⟩:=x;unfold wv at H1;simp only at H1;have N:Hid (S.hd=⟨i,n,l⟩):=Y;clear Y;go_enter Tryz.func143,Tryz.ntmps143
 go_upto_region 1 with fail
 generalize (W.alloc (.cells #[.int .i64 0,.string ⟨#[]⟩,.int .i64 0] 149)).alloc (.cells #[.int .i64 0,.int .i64 0] 125)=C at J p q ⊢
 obtain⟨b,s⟩:∃b,b=W.heap.size:=⟨_,rfl⟩
 rw[<-s]at p q ⊢
 have F:Hid (b=W.heap.size/\g<b):=⟨s,by rw[s];exact H⟩
 have j:Hid (C.heap[b]?=some (.cells #[.int .i64 0,.string ⟨#[]⟩,.int .i64 0] 149 (0,0))/\C.heap[b+1]?=some (.cells #[.int .i64 0,.int .i64 0] 125 (0,0))):=⟨p,q⟩
 clear p q H s;go_wp2_with fail;refine(H1.out _ J.out).mono ?_;rintro e m ⟨rfl,z⟩
 have f:Hid (Below C.heap.size C m/\Below W.heap.size W m):=⟨z,qd J.out z⟩
 clear z
 obtain⟨Z,a0⟩:∃Z,Z=m.heap.size:=⟨_,rfl⟩
 by_cases c:i=k
 ·have hq:(i != k)=false:=by simp[c]
  have X:Hid (Ends S.ws.tail):=(HQ.out.ends.tail_of_kind (by rw[show yv S.ws=⟨i,n,l⟩ from N.out];simp only;rw[c];exact U)).2
  have M:Hid (takeS k S=S.next/\takeW k S=⟨i,n,l⟩/\jp k S=(0,0)):=by
   unfold takeS takeW jp;rw[N.out];simp only;rw[if_pos c,if_pos c,if_pos c];exact⟨rfl,rfl,rfl⟩
  have G:Hid (RD w (m.alloc (.cells #[.int .i64 i,.string n,.int .i64 l] 149)) g h S qs):=K.out _ (qd f.out.2 (qb _ _))
  have L:Hid (b+2<=m.heap.size):=by
   have h1:=f.out.1.size;have h2:=(Array.getElem?_eq_some_iff.1 j.out.2).1;show _<=_;omega
  clear c;go_wp2_with fail;refine(qb1 w _ g h S qs G.out X.out).mono ?_;rintro e a ⟨rfl,o⟩
  have t:∀k,k≠g->a.heap[k]?=(m.alloc (.cells #[.int .i64 i,.string n,.int .i64 l] 149)).heap[k]?:=fun k U=>by rw[o];exact Below.heap_setCell _ _ _ _ U
  have t0:a.heap[m.heap.size]?=some (.cells #[.int .i64 i,.string n,.int .i64 l] 149 (0,0)):=by
   rw[t _ (by have:=F.out.2;have:=L.out;omega)]
   exact heap_alloc_new _ _
  have t1:a.heap[b]?=some (.cells #[.int .i64 0,.string ⟨#[]⟩,.int .i64 0] 149 (0,0)):=by
   rw[t _ (by have:=F.out.2;omega)]
   exact qf (qd f.out.1 (qb _ _)) j.out.1
  have t2:a.heap[b+1]?=some (.cells #[.int .i64 0,.int .i64 0] 125 (0,0)):=by
   rw[t _ (by have:=F.out.2;omega)]
   exact qf (qd f.out.1 (qb _ _)) j.out.2
  have y:Hid (Went w W g S.next qs a):=by
   refine⟨⟨⟨h.wb,h.wo+3,h.wc - 1,h.ta,h.tc,h.ra,h.rc⟩,by rw[o];exact G.out.next X.out,fun _ _ r0=>by have e:=qcw (K.out W (Below.refl _ _)) r0;exact e⟩,?_⟩
   rw[o];exact(zk (qd f.out.2 (qb _ _))).setCell ⟨g,0,none⟩ _ (fun _=>rfl)
  have p0:a.cell? ⟨m.heap.size,0,none⟩=some (.int .i64 i):=by rw[qe t0];rfl
  have p1:a.cell? ⟨m.heap.size,1,none⟩=some (.string n):=by rw[qe t0];rfl
  have p2:a.cell? ⟨m.heap.size,2,none⟩=some (.int .i64 l):=by rw[qe t0];rfl
  have q0:a.cell? ⟨b,0,none⟩=some (.int .i64 0):=by rw[qe t1];rfl
  have q1:a.cell? ⟨b,1,none⟩=some (.string ⟨#[]⟩):=by rw[qe t1];rfl
  have q2:a.cell? ⟨b,2,none⟩=some (.int .i64 0):=by rw[qe t1];rfl
  have q3:a.cell? ⟨b+1,0,none⟩=some (.int .i64 0):=by rw[qe t2];rfl
  have q4:a.cell? ⟨b+1,1,none⟩=some (.int .i64 0):=by rw[qe t2];rfl
  have z0:a.frozen? ⟨b,0,none⟩=false:=qi t1 0;have z1:a.frozen? ⟨b,1,none⟩=false:=qi t1 1;have z2:a.frozen? ⟨b,2,none⟩=false:=qi t1 2;have z3:a.frozen? ⟨b+1,0,none⟩=false:=qi t2 0;have z4:a.frozen? ⟨b+1,1,none⟩=false:=qi t2 1
  have E:Loc a b 149/\Loc a (b+1) 125:=⟨⟨_,t1⟩,⟨_,t2⟩⟩
  clear t t0 t1 t2 o;have D:Hid (Loc a b 149/\Loc a (b+1) 125):=E;clear E;go_wp2_with fail;refine bodyPost_ret (v:=.tuple #[.agg #[.int .i64 i,.string n,.int .i64 l],.agg #[.int .i64 0,.int .i64 0]]) (by simp[results,Tryz.results143,go_sem, *]) rfl ?_;obtain⟨P,Q,R⟩:=M.out;rw[P,Q,R];have A:W.heap.size<=b:=Nat.le_of_eq F.out.1.symm;have B:=D.out.1;have I:=D.out.2;refine⟨rfl,?_⟩;exact((((y.out.far B (by decide) d.out A).far (B.set _ _ _) (by decide) d.out A).far ((B.set _ _ _).set _ _ _) (by decide) d.out A).far (((I.set _ _ _).set _ _ _).set _ _ _) (by decide) d.out (by omega)).far ((((I.set _ _ _).set _ _ _).set _ _ _).set _ _ _) (by decide) d.out (by omega)
 ·have hq:(i != k)=true:=by simp[c]
  have M:Hid (takeS k S=S/\takeW k S=⟨0,⟨#[]⟩,0⟩/\jp k S=zj ⟨i,n,l⟩):=by
   unfold takeS takeW jp;rw[N.out];simp only;rw[if_neg c,if_neg c,if_neg c];exact⟨rfl,rfl,rfl⟩
  clear c;go_wp2_with fail;refine(jo ⟨i,n,l⟩ _).mono ?_;rintro e a ⟨rfl,z⟩;unfold fv zj;simp only
  have u:Hid (Below C.heap.size C a/\Below W.heap.size W a):=⟨qd f.out.1 (qd (qb _ _) z),qd f.out.2 (qd (qb _ _) z)⟩
  clear z;have t1:=qf u.out.1 j.out.1;have t2:=qf u.out.1 j.out.2
  have q0:a.cell? ⟨b,0,none⟩=some (.int .i64 0):=by rw[qe t1];rfl
  have q1:a.cell? ⟨b,1,none⟩=some (.string ⟨#[]⟩):=by rw[qe t1];rfl
  have q2:a.cell? ⟨b,2,none⟩=some (.int .i64 0):=by rw[qe t1];rfl
  have q3:a.cell? ⟨b+1,0,none⟩=some (.int .i64 0):=by rw[qe t2];rfl
  have q4:a.cell? ⟨b+1,1,none⟩=some (.int .i64 0):=by rw[qe t2];rfl
  have z0:a.frozen? ⟨b,0,none⟩=false:=qi t1 0;have z1:a.frozen? ⟨b,1,none⟩=false:=qi t1 1;have z2:a.frozen? ⟨b,2,none⟩=false:=qi t1 2;have z3:a.frozen? ⟨b+1,0,none⟩=false:=qi t2 0;have z4:a.frozen? ⟨b+1,1,none⟩=false:=qi t2 1
  have D:Hid (Loc a b 149/\Loc a (b+1) 125):=⟨⟨_,t1⟩,⟨_,t2⟩⟩
  clear t1 t2;go_wp2_with fail;refine bodyPost_ret (v:=.tuple #[.agg #[.int .i64 0,.string ⟨#[]⟩,.int .i64 0],.agg #[.int .i64 1,.int .i64 l]]) (by simp[results,Tryz.results143,go_sem, *]) rfl ?_;obtain⟨P,Q,R⟩:=M.out;rw[P,Q,R];have A:W.heap.size<=b:=Nat.le_of_eq F.out.1.symm;have B:=D.out.1;have I:=D.out.2;have y:Went w W g S qs a:=Went.stay (K.out W (Below.refl _ _)) u.out.2;refine⟨rfl,?_⟩;exact((((y.far B (by decide) d.out A).far (B.set _ _ _) (by decide) d.out A).far ((B.set _ _ _).set _ _ _) (by decide) d.out A).far (((I.set _ _ _).set _ _ _).set _ _ _) (by decide) d.out (by omega)).far ((((I.set _ _ _).set _ _ _).set _ _ _).set _ _ _) (by decide) d.out (by omega)
theorem qas{α:Type}(f:α->List Value)(a:∀x,(f x).length=4):∀(l:List α) (i:Nat) (x:α) (j:Nat),l[i]?=some x->j<4->(l.flatMap f)[i * 4+j]?=(f x)[j]?
 | [],i,x,j,h,_=>by cases h
 | y :: r,0,x,j,h,hj=>by
  cases h
  rw[List.flatMap_cons,List.getElem?_append_left (by rw[a];omega)]
  rw[Nat.zero_mul,Nat.zero_add]
 | y :: r,i+1,x,j,h,hj=>by
  rw[List.flatMap_cons,List.getElem?_append_right (by rw[a];omega),a]
  rw[show(i+1) * 4+j - 4=i * 4+j by omega];exact qas f a r i x j h hj
theorem qcq{α:Type}(f:α->List Value)(a:∀x,(f x).length=4):∀(l:List α),(l.flatMap f).length=l.length * 4
 | []=>rfl
 | y :: r=>by rw[List.flatMap_cons,List.length_append,a,qcq f a r,List.length_cons];omega
theorem qjs{α:Type}(f:α->List Value)(a:∀x,(f x).length=4)(y:α)(j:Nat)(u:Value):∀(l:List α) (i:Nat) (x:α),l[i]?=some x->j<4->(f x).set j u=f y->(l.flatMap f).set (i * 4+j) u=(l.set i y).flatMap f
 | [],i,x,h,_,_=>by cases h
 | z :: r,0,x,h,hj,he=>by
  cases h
  rw[List.set_cons_zero,List.flatMap_cons,List.flatMap_cons,Nat.zero_mul,Nat.zero_add,List.set_append_left _ _ (by rw[a];exact hj),he]
 | z :: r,i+1,x,h,hj,he=>by
  rw[List.set_cons_succ,List.flatMap_cons,List.flatMap_cons,List.set_append_right _ _ (by rw[a];omega),a,show(i+1) * 4+j - 4=i * 4+j by omega]
  rw[qjs f a y j u r i x h hj he]
theorem qjt{s:ByteArray}:∀{ts:List Tk} {k:Nat} {t:Tk},(∀(i:Nat) (t:Tk),i<k->ts[i]?=some t->t.n≠s)->ts[k]?=some t->t.n=s->vg ts s=some k
 | [],k,t,_,h,_=>by cases h
 | u :: r,0,t,_,h,he=>by
  cases h
  unfold vg;rw[if_pos he]
 | u :: r,k+1,t,hb,h,he=>by
  unfold vg;rw[if_neg (hb 0 u (by omega) rfl),qjt (k:=k) (t:=t) (fun i t b a=>hb (i+1) t (by omega) (by simpa using a)) (by simpa using h) he];rfl
theorem qga{s:ByteArray}:∀{ts:List Tk},(∀(i:Nat) (t:Tk),ts[i]?=some t->t.n≠s)->vg ts s=none
 | [],_=>rfl
 | u :: r,hb=>by
  unfold vg;rw[if_neg (hb 0 u rfl),qga (ts:=r) (fun i t a=>hb (i+1) t (by simpa using a))];rfl
def idxI (o:Option Nat):Int:=match o with | some i=>i | none=>-1
theorem qr0{ts:List Tk}{a:List Bool}(f:a.length=ts.length){i:Nat}{t:Tk}(c:ts[i]?=some t):∃b,a[i]?=some b/\(ts.zip a)[i]?=some (t,b):=by
 have d:i<ts.length:=(List.getElem?_eq_some_iff.1 c).1;refine⟨a[i]'(by omega),List.getElem?_eq_getElem _,?_⟩;rw[List.getElem?_zip_eq_some];exact⟨c,List.getElem?_eq_getElem _⟩
theorem RD.tokAt{w W:World}{y:Nat}{h:RHd}{S:St}{qs:List (Ru × Option Addr × Nat)}(r:RD w W y h S qs){i:Nat}{t:Tk}(q:S.ts[i]?=some t):
  ∃d b,h.ta=some ⟨d,0,none⟩/\S.ls[i]?=some b/\W.cell? ⟨d,i * 4,none⟩=some (.string t.n)/\W.cell? ⟨d,i * 4+1,none⟩=some (.int .i64 t.l)/\W.cell? ⟨d,i * 4+2,none⟩=some (.int .i64 t.a)/\W.cell? ⟨d,i * 4+3,none⟩=some (.bool b)/\∀j,W.frozen? ⟨d,j,none⟩=false:=by
 have C:i<S.ts.length:=(List.getElem?_eq_some_iff.1 q).1;obtain⟨b,p,m⟩:=qr0 r.ok.nl q;obtain⟨z,c,e,A,B,k⟩:=zh r.tok
 have f:∃d,h.ta=some ⟨d,0,none⟩:=by
  cases e
  rcases k with ⟨-,k,-⟩ | ⟨d,k⟩
  ·omega
  ·exact⟨d,k⟩
 obtain⟨d,f⟩:=f;have o:=r.tok;rw[f]at o
 have cell:∀j u,(rtC (S.ts.zip S.ls))[j]?=some u->W.cell? ⟨d,j,none⟩=some u:=fun j u v=>by
  have:=World.ownsRow.cells o (g:=d) rfl j u v
  rwa [Addr.add_lit,Nat.zero_add]at this
 have s:∀j,W.frozen? ⟨d,j,none⟩=false:=by
  rcases o.2 with ⟨hv,-⟩ | ⟨g',cap',cur,hv,p,hh,-⟩
  ·cases hv
  ·cases hv
   exact fun j=>qi hh j
 refine⟨d,b,f,p,cell _ _ ?_,cell _ _ ?_,cell _ _ ?_,cell _ _ ?_,s⟩
 ·have:=qas (fun x:Tk × Bool=>[.string x.1.n,.int .i64 x.1.l,.int .i64 x.1.a,.bool x.2]) (fun _=>rfl) (S.ts.zip S.ls) i (t,b) 0 m (by omega);rw[Nat.add_zero]at this;exact this
 ·exact qas _ (fun _=>rfl) (S.ts.zip S.ls) i (t,b) 1 m (by omega)
 ·exact qas _ (fun _=>rfl) (S.ts.zip S.ls) i (t,b) 2 m (by omega)
 ·exact qas _ (fun _=>rfl) (S.ts.zip S.ls) i (t,b) 3 m (by omega)
theorem RD.tlen{w W:World}{b:Nat}{h:RHd}{S:St}{qs:List (Ru × Option Addr × Nat)}(r:RD w W b h S qs):S.ts.length<=h.tc/\h.tc<=9223372036854775807:=by
 obtain⟨d,c,e,f,a,g⟩:=zh r.tok
 cases e
 unfold maxLen at a;omega
theorem qmq(t:Tk)(b:Bool)(d:Nat)(s:ByteArray)(w:World)(c:w.cell? ⟨d,1,none⟩=some (.string s)):
  Calls Tryz.prog 169 #[.agg #[.string t.n,.int .i64 t.l,.int .i64 t.a,.bool b],.pointer (some ⟨d,0,none⟩)] w fun e f=>e=.returned (.bool (t.n.toList == s.toList))/\Below w.heap.size w f:=by
 have c:=qo c;go_enter Tryz.func169,Tryz.ntmps169;go_wp2;go_ret;exact⟨rfl,(Below.refl _ _).alloc (Nat.le_refl _) _⟩
theorem qhc(w W:World)(H:Nat)(h:RHd)(S:St)(qs:List (Ru × Option Addr × Nat))(r:RD w W H h S qs)(m:Nat)(s:ByteArray)(F:W.cell? ⟨m,1,none⟩=some (.string s)):
  Calls Tryz.prog 168 #[.slice h.ta S.ts.length h.tc,.func (.func 169) #[] #[.pointer (some ⟨m,0,none⟩)]] W fun e y=>e=.returned (.int .i64 (idxI (vg S.ts s)))/\Below W.heap.size W y:=by
 have A:Hid (∀V:World,Below W.heap.size W V->RD w V H h S qs/\V.cell? ⟨m,1,none⟩=some (.string s)):=fun V E=>⟨r.step E,qj E F⟩
 obtain⟨p,v⟩:=r.tlen;have I:S.ts.length<=40:=r.ok.nt;obtain⟨U,X,wc,Q,T,O,P⟩:=h;simp only at p v;simp only
 generalize D:S.ts.length=n at *
 have z:Hid (S.ts.length=n):=D;clear r F D;go_enter Tryz.func168,Tryz.ntmps168;go_wp2
 go_loopg [8] n (fun kx s8 wr=>∃k:Nat,s8=.int .i64 k/\k<=n/\n - k<=kx/\Hid (Below W.heap.size W wr/\∀i t,i<k->S.ts[i]?=some t->t.n≠s))
 case atStart=>exact⟨0,rfl,Nat.zero_le _,by omega,(⟨Below.refl _ _,fun i t G=>absurd G (Nat.not_lt_zero _)⟩:Below W.heap.size W W/\∀i t,i<0->S.ts[i]?=some t->t.n≠s)⟩
 case round =>
  obtain⟨k,rfl,N,M,J⟩:=hrel
  by_cases q:k<n
  ·obtain⟨t,d⟩:∃t,S.ts[k]?=some t:=⟨S.ts[k]'(by rw[z.out];exact q),List.getElem?_eq_getElem _⟩
   obtain⟨R,C,j,-,c0,c1,c2,L,-⟩:=(A.out wr J.out.1).1.tokAt d;simp only at j;subst j;have B:Hid (S.ts[k]?=some t):=d;have b:Hid (Calls Tryz.prog 169 #[.agg #[.string t.n,.int .i64 t.l,.int .i64 t.a,.bool C],.pointer (some ⟨m,0,none⟩)] wr fun e y=>e=.returned (.bool (t.n.toList == s.toList))/\Below wr.heap.size wr y):=qmq t C m s wr (A.out wr J.out.1).2;clear d
   by_cases c:t.n=s
   ·have g:=xh c;rw[g]at b
    have f:Hid (idxI (vg S.ts s)=(k:Int)):=by
     show _=_;rw[qjt J.out.2 B.out c];rfl
    generalize t.n=K at c0 b;clear g c;go_wp2_with(go_at_call 169;refine b.out.mono ?_;rintro e w1 ⟨rfl,o⟩)
    go_ret;exact⟨by rw[f.out];rfl,qd J.out.1 o⟩
   ·have g:=k9 c;rw[g]at b
    have f:Hid (∀i t,i<k+1->S.ts[i]?=some t->t.n≠s):=fun i u G x=>by
     rcases Nat.lt_or_ge i k with h | h
     ·exact J.out.2 i u h x
     ·have:i=k:=by omega
      subst this;rw[B.out]at x
      cases x
      exact c
    generalize t.n=K at c0 b;clear g c;go_wp2_with(go_at_call 169;refine b.out.mono ?_;rintro e w1 ⟨rfl,o⟩)
    go_roundg (n - (k+1))
    case measure=>omega
    case rel=>exact⟨k+1,by simp,by omega,Nat.le_refl _,(⟨qd J.out.1 o,f.out⟩:Below W.heap.size W w1/\∀i t,i<k+1->S.ts[i]?=some t->t.n≠s)⟩
  ·have f:Hid (idxI (vg S.ts s)=-1):=by
    show _=_;rw[qga (fun i t d=>J.out.2 i t (by have:=(List.getElem?_eq_some_iff.1 d).1;rw[z.out]at this;omega) d)]
    rfl
   go_wp2;go_ret;exact⟨by rw[f.out];rfl,J.out.1⟩
structure Keep (W W':World):Prop where
 size:W.heap.size<=W'.heap.size
 loc:∀(b:Nat) (c:Array Value) (T:TypeId),W.heap[b]?=some (Obj.cells c T (0,0))->T≠139->T≠153->T≠55->T≠9->W'.heap[b]?=some (Obj.cells c T (0,0))
theorem Keep.refl(W:World):Keep W W:=⟨Nat.le_refl _,fun _ _ _ h _ _ _ _=>h⟩
theorem Keep.trans{a b c:World}(h:Keep a b)(k:Keep b c):Keep a c:=⟨Nat.le_trans h.size k.size,fun b c T j d f g i=>k.loc b c T (h.loc b c T j d f g i) d f g i⟩
theorem qp{W a:World}(h:Below W.heap.size W a):Keep W a:=⟨h.size,fun _ _ _ b _ _ _ _=>qf h b⟩
theorem Keep.set{W d:World}(k:Keep W d){b T:Nat}(q:Loc d b T)(p:T=139\/T=153\/T=55\/T=9)(j:Nat)(u:Value):Keep W (d.setCell ⟨b,j,none⟩ u):=by
 refine⟨by have:=k.size;simpa using this,fun b' c f o g h i l=>?_⟩
 have m:=k.loc b' c f o g h i l;rw[Below.heap_setCell _ _ _ _ (fun e=>?_)]
 ·exact m
 ·simp only at e;subst e;obtain⟨c2,a⟩:=q;rw[m]at a;simp only[Option.some.injEq,Obj.cells.injEq]at a;have n:f=T:=a.2.1;subst n
  rcases p with e | e | e | e
  ·exact g e
  ·exact h e
  ·exact i e
  ·exact l e
theorem Went.keep{w W g:World}{h:Nat}{S:St}{qs:List (Ru × Option Addr × Nat)}(r:Went w W h S qs g)(f:Loc W h 139):Keep W g:=by
 obtain⟨-,k⟩:=r;refine⟨k.size,fun b c T d i j l m=>?_⟩;rw[k.block b (Array.getElem?_eq_some_iff.1 d).1 (fun e=>?_)]
 ·exact d
 ·cases e
  obtain⟨c2,a⟩:=f;rw[d]at a;simp only[Option.some.injEq,Obj.cells.injEq]at a;exact i a.2.1
theorem Tryz.info153:(Tryz.prog.info? 153).map (fun i=>(i.zero,i.size,i.bytes))=some (some (.agg #[.string ⟨#[]⟩,.int .i64 0,.int .i64 0,.bool false]),4,40):=by kernel_rfl
theorem qx{W:World}{a E k n:Nat}{v:Value}{cs:List Value}(h:W.ownsRow a E k v n cs){i:Nat}(b:v.ownBlock=some i):Loc W i E:=by
 rcases h.2 with ⟨rfl,-⟩ | ⟨g,c,cur,rfl,-,hh,-⟩
 ·cases b
 ·simp only[Value.ownBlock,Option.some.injEq]at b;subst b;exact⟨_,hh⟩
theorem qr{W:World}{b b' T d:Nat}(h:Loc W b T)(f:Loc W b' d)(g:T≠d):b≠b':=by
 rintro rfl;obtain⟨c,i⟩:=h;obtain⟨j,a⟩:=f;rw[i]at a;simp only[Option.some.injEq,Obj.cells.injEq]at a;exact g a.2.1
theorem qb2{W f:World}{a E k n:Nat}{v:Value}{cs:List Value}(h:W.ownsRow a E k v n cs){v2:Value}{d b o p:Nat}{c:List Value}(j:W.ownsRow b d o v2 p c)(l:E≠d)(m:W.grownBy f v2.ownBlock):f.ownsRow a E k v n cs :=
 qh h (fun i g=>m.block i (World.ownsRow.lt h i g).2 (fun e=>qr (qx h g) (qx j e.symm) l rfl))
theorem RD.addTok{w W:World}{o:Nat}{h:RHd}{S:St}{qs:List (Ru × Option Addr × Nat)}(r:RD w W o h S qs)(f:ByteArray)(Y:S.ts.length<40):
  ∃g m c l,(Builtin.append_ #[137,137] 137 #[.slice h.ta S.ts.length h.tc,.slice (some ⟨W.heap.size,0,none⟩) 1 1]).run Tryz.prog (W.alloc (.cells #[.string f,.int .i64 0,.int .i64 0,.bool false] 153))=.ok (.slice (some ⟨g,0,none⟩) m c) l/\m=S.ts.length+1/\l.heap[o]?=some (.cells (rdC h S) 139 (0,0)) /\
   RD w (l.setCell ⟨o,1,none⟩ (.slice (some ⟨g,0,none⟩) m c)) o ⟨h.wb,h.wo,h.wc,some ⟨g,0,none⟩,c,h.ra,h.rc⟩ ⟨S.ws,S.ts++[⟨f,0,0⟩],S.ls++[false],S.lv,S.st,S.ed,S.ex,S.rs⟩ qs/\Keep W (l.setCell ⟨o,1,none⟩ (.slice (some ⟨g,0,none⟩) m c)):=by
 obtain⟨Q,B,D,F,G⟩:=info_parts Tryz.info153;have x:=qb W (.cells #[.string f,.int .i64 0,.int .i64 0,.bool false] 153);have d:=r.step x
 have s:∀j u,(rtC [((⟨f,0,0⟩:Tk),false)])[j]?=some u->(W.alloc (.cells #[.string f,.int .i64 0,.int .i64 0,.bool false] 153)).cell? ((⟨W.heap.size,0,none⟩:Addr).add j)=some u:=by
  intro j u z;rw[Addr.add_lit,Nat.zero_add,World.cell?_alloc_mark,<-z];exact List.getElem?_toArray (xs:=rtC [((⟨f,0,0⟩:Tk),false)]) (i:=j)
 obtain⟨v',l,N,H,t,-⟩:=run_append_own (P:=Tryz.prog) (W.alloc (.cells #[.string f,.int .i64 0,.int .i64 0,.bool false] 153)) w.heap.size 137 137 153 Q _ 4 40 Tryz.underlying137 B D F G rfl (by decide) _ S.ts.length _ d.tok ⟨W.heap.size,0,none⟩ 1 1 (rtC [((⟨f,0,0⟩:Tk),false)]) rfl s
  (fun u z=>by simp[rtC]at z;rcases z with rfl | rfl | rfl | rfl <;> rfl) (by unfold maxLen;omega) (by omega) (by have:=d.bel.size;exact this)
 obtain⟨J,c,rfl,V,X,y⟩:=zh H
 obtain⟨g,rfl⟩:∃g,J=some ⟨g,0,none⟩:=by
  rcases y with ⟨-,y,-⟩ | y
  ·omega
  ·exact y
 have a:l.heap[o]?=some (.cells (rdC h S) 139 (0,0)):=by
  rw[t.block o (Array.getElem?_eq_some_iff.1 d.box).1 (fun e=>qr ⟨_,d.box⟩ (qx d.tok e.symm) (by decide) rfl)];exact d.box
 have O:(S.ts++[(⟨f,0,0⟩:Tk)]).zip (S.ls++[false])=S.ts.zip S.ls++[((⟨f,0,0⟩:Tk),false)]:=by
  rw[List.zip_append (by rw[r.ok.nl])];rfl
 have C:rtC (S.ts.zip S.ls++[((⟨f,0,0⟩:Tk),false)])=rtC (S.ts.zip S.ls)++rtC [((⟨f,0,0⟩:Tk),false)]:=by unfold rtC;rw[List.flatMap_append]
 have far:∀{E k n:Nat} {v:Value} {cs:List Value},l.ownsRow w.heap.size E k v n cs->E≠139->(l.setCell ⟨o,1,none⟩ (.slice (some ⟨g,0,none⟩) (S.ts.length+1) c)).ownsRow w.heap.size E k v n cs:=by
  intro E k n v cs I K;exact qh I (fun i B=>Below.heap_setCell _ _ _ _ (qr (qx I B) ⟨_,a⟩ K))
 refine⟨g,_,c,l,N,rfl,a,⟨?_,r.wds,?_,?_,r.map,fun q M=>?_,?_,r.new,?_⟩,?_⟩
 ·rw[setCell_eq_setRow l o 1 _ 139 (0,0) _ a]
  have e:(rdC h S).setIfInBounds 1 (.slice (some ⟨g,0,none⟩) (S.ts.length+1) c)=rdC ⟨h.wb,h.wo,h.wc,some ⟨g,0,none⟩,c,h.ra,h.rc⟩ ⟨S.ws,S.ts++[⟨f,0,0⟩],S.ls++[false],S.lv,S.st,S.ed,S.ex,S.rs⟩:=by
   unfold rdC;simp
  rw[e];exact setRow_heap _ _ _ _ 139 _ a
 ·refine far ?_ (by decide);simp only[List.length_append,List.length_cons,List.length_nil];rw[O,C];exact H
 ·exact far (qb2 d.rul d.tok (by decide) t) (by decide)
 ·exact far (qb2 (d.row q M) d.tok (by decide) t) (by decide)
 ·exact(d.bel.grown t (d.bel.size) (fun k L=>(World.ownsRow.lt d.tok k L).1)).setCell (p:=⟨o,1,none⟩) r.new _
 ·refine⟨r.ok.ends,?_,?_,r.ok.lv,r.ok.nr⟩
  ·simp only[List.length_append,List.length_cons,List.length_nil];omega
  ·simp only[List.length_append,List.length_cons,List.length_nil];rw[r.ok.nl]
 ·have R:Keep W l:=by
   refine(qp x).trans ⟨t.size,fun b c2 T A Z U q3 q4=>?_⟩;rw[t.block b (Array.getElem?_eq_some_iff.1 A).1 (fun e=>qr ⟨_,A⟩ (qx d.tok e.symm) U rfl)];exact A
  exact R.set ⟨_,a⟩ (.inl rfl) 1 _
end Go.Proofs.YtngclmglmhiljaaGreatDoor
