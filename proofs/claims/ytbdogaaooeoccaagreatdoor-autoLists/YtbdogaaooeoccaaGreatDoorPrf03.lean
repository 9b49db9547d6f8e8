/- Texts that the proofs of the Auto statements stand on, part Prf03. -/
import Derived.Shelf.SlSortCmp.QuietGrown
import Derived.Lib.SliceRun
import Derived.BigQuiet
import Derived.Lib.Builder
import Derived.Lib.MakeNoZero
import Derived.Laws.IdiomCopy
import Derived.Deep.RegionWith
import Derived.Deep.RegionLaw
import Derived.Test.YtbdogaaooeoccaaGreatDoorPrf02
set_option maxHeartbeats 16000000
set_option maxRecDepth 100000
namespace Go.Proofs.YtbdogaaooeoccaaGreatDoor
open Go.RowKit
theorem qmm{S:Sp}{l:List Nat}{t:Nat}:FstL S l t↔∃j y,l[j]?=some y/\(∀z∈l.take j,Nul S z)/\FstP S y t:=by
 constructor
 ·rintro⟨u,y,v,rfl,a,b⟩;refine⟨u.length,y,?_,?_,b⟩
  ·rw[List.getElem?_append_right (Nat.le_refl _),Nat.sub_self];rfl
  ·have:(u++y :: v).take u.length=u:=by simp
   rw[this];exact a
 ·rintro⟨j,y,c,a,b⟩;refine⟨l.take j,y,l.drop (j+1),?_,a,b⟩;rw[<-vz c,List.take_append_drop]
theorem qfq{l:List Nat}{j k y:Nat}(b:l[j]?=some y)(h:j<k):y∈l.take k:=by
 obtain⟨c,a⟩:=List.getElem?_eq_some_iff.1 b;rw[List.mem_take_iff_getElem];exact⟨j,by omega,a⟩
theorem qgf{l:List Nat}{k a:Nat}(h:a∈l.take k):∃j,j<k/\l[j]?=some a:=by
 rw[List.mem_take_iff_getElem]at h;obtain⟨j,b,e⟩:=h;exact⟨j,by omega,by rw[<-e];exact List.getElem?_eq_getElem _⟩
theorem qi0{l:List Nat}{j k z:Nat}(c:j<=k)(h:z∈l.take j):z∈l.take k:=by
 obtain⟨i,b,a⟩:=qgf h;exact qfq a (by omega)
theorem qqe{S:Sp}{n:Nat}{f:List (List Nat)}(g:Ways S n f)(m:S.tk<n){l:List Nat}(i:∀z∈l,z<n/\z≠S.tk){k y:Nat}(p:l[k]?=some y)(q:∀z∈l.take k,Nul S z)(d:¬Nul S y){t:Nat}(o:t<=S.tk)(Q:Prop):
  (∃a∈l.take (k+1),Got f a t)↔FstL S l t\/((∀z∈l,Nul S z)/\Q):=by
 rw[qmm]
 constructor
 ·rintro⟨a,r,u⟩;obtain⟨j,A,b⟩:=qgf r;have c:=i a (List.mem_of_getElem? b);refine .inl ⟨j,a,b,fun z x=>q z (qi0 (by omega) x),(g.got_fst c.1 c.2 o m).1 u⟩
 ·rintro(⟨j,a,b,v,s⟩ | ⟨c,-⟩)
  ·have c:=i a (List.mem_of_getElem? b);refine⟨a,qfq b ?_,(g.got_fst c.1 c.2 o m).2 s⟩
   rcases Nat.lt_or_ge k j with h | h
   ·exact absurd (v y (qfq p h)) d
   ·omega
  ·exact absurd (c y (List.mem_of_getElem? p)) d
theorem qmn{S:Sp}{n:Nat}{f:List (List Nat)}(g:Ways S n f)(i:S.tk<n){l:List Nat}(h:∀z∈l,z<n/\z≠S.tk)(m:∀z∈l,Nul S z){t:Nat}(k:t<=S.tk):(∃a∈l,Got f a t)↔FstL S l t:=by
 rw[qmm]
 constructor
 ·rintro⟨a,d,p⟩;obtain⟨j,b⟩:=List.getElem?_of_mem d;have c:=h a d;exact⟨j,a,b,fun z q=>m z (List.mem_of_mem_take q),(g.got_fst c.1 c.2 k i).1 p⟩
 ·rintro⟨j,a,b,-,o⟩;have d:=List.mem_of_getElem? b;have c:=h a d;exact⟨a,d,(g.got_fst c.1 c.2 k i).2 o⟩
theorem Ways.got_tok{S:Sp}{n:Nat}{W:List (List Nat)}(h:Ways S n W){b t:Nat}(g:b<=S.tk)(f:t<=S.tk)(d:S.tk<n)(c:∀t,¬FstP S S.tk t)(a:∀x t,x<S.tk->FstP S x t->t=x):Got W b t↔t=b:=by
 rcases Nat.lt_or_ge b S.tk with h1 | h1
 ·rw[h.got_fst (by omega) (by omega) f d];exact⟨a b t h1,fun e=>by subst e;exact FstP.tok t h1⟩
 ·have:b=S.tk:=by omega
  subst this;exact h.got_end f d c
theorem qhe{S:Sp}(c:WF S){x t:Nat}(b:x<=S.tk)(h:FstP S x t):x<S.tk/\t=x:=by
 have d:=h (fun x t=>x<=S.tk->x<S.tk/\t=x) (fun x b _=>⟨b,rfl⟩) (fun i r x y a u v f j g _ _ _ b=>by
  obtain⟨z,k,l,-⟩:=c.rl i r f j;rw[k]at g
  omega)
 exact d b
theorem qmo{S:Sp}(a:WF S){x:Nat}(h:Nul S x):S.tk<x/\x<S.tk+1+S.nt:=h (fun x=>S.tk<x/\x<S.tk+1+S.nt) (fun i r x b d c _=>by
 obtain⟨z,f,g,j⟩:=a.rl i r b d;rw[f]at c
 omega)
structure Wd where
 k:Int
 t:ByteArray
 a:Int
def endW (a:Int):Wd:=⟨5,⟨#[]⟩,a⟩
structure WdOk (w:Wd):Prop where
 kind:1<=w.k/\w.k<=4
 name:w.k=1->isL (bt (by8 w.t) 0)=true/\1<=w.t.size
 num:w.k=2->1<=w.t.size/\w.t.size<=4/\∀j,j<w.t.size->isD (bt (by8 w.t) j)=true
 sign:w.k=3->by8 w.t=[58]\/by8 w.t=[124]\/by8 w.t=[59]
 key:w.k=4->bt (by8 w.t) 0=37/\1<=w.t.size
 size:w.t.size<=100
def Ends (ws:List Wd):Prop:=∃(pre:List Wd) (a:Int),ws=pre++[endW a]/\∀w∈pre,WdOk w
theorem Ends.pos{b:List Wd}(h:Ends b):1<=b.length:=by
 obtain⟨c,a,rfl,-⟩:=h;rw[List.length_append];exact Nat.le_add_left _ _
def qae (ws:List Wd):Wd:=ws.headD (endW 0)
theorem Ends.head{c:List Wd}(h:Ends c):∃r,c=qae c :: r:=by
 obtain⟨b,a,rfl,-⟩:=h
 cases b with
 | nil=>exact⟨[],rfl⟩
 | cons x r=>exact⟨r++[endW a],rfl⟩
theorem Ends.cases{b:List Wd}(h:Ends b):(∃a,b=[endW a])\/(WdOk (qae b)/\Ends b.tail/\b=qae b :: b.tail):=by
 obtain⟨c,a,rfl,d⟩:=h
 cases c with
 | nil=>exact .inl ⟨a,rfl⟩
 | cons x r=>exact .inr ⟨d x List.mem_cons_self,⟨r,a,rfl,fun w f=>d w (List.mem_cons_of_mem _ f)⟩,rfl⟩
theorem Ends.tail_of_kind{b:List Wd}(h:Ends b)(c:(qae b).k≠5):WdOk (qae b)/\Ends b.tail:=by
 rcases h.cases with ⟨a,rfl⟩ | ⟨h1,h2,-⟩
 ·exact absurd rfl c
 ·exact⟨h1,h2⟩
theorem Ends.tail_of_text{b:List Wd}(h:Ends b)(c:(qae b).t≠⟨#[]⟩):WdOk (qae b)/\Ends b.tail:=by
 rcases h.cases with ⟨a,rfl⟩ | ⟨h1,h2,-⟩
 ·exact absurd rfl c
 ·exact⟨h1,h2⟩
structure St where
 ws:List Wd
 ts:List Tk
 ls:List Bool
 lv:Nat
 st:ByteArray
 ed:Bool
 ex:Int
 rs:List Ru
abbrev Flt:=Int × Int
def St.hd (S:St):Wd:=qae S.ws
def St.next (S:St):St:=⟨S.ws.tail,S.ts,S.ls,S.lv,S.st,S.ed,S.ex,S.rs⟩
def zt (w:Wd):Flt:=(1,w.a)
def vt (w:Wd):Flt:=(7,w.a)
def jf (k:Int) (S:St):Except Flt (Wd × St):=if S.hd.k=k then .ok (S.hd,S.next) else .error (zt S.hd)
def vx:List Tk->ByteArray->Option Nat
 | [],_=>none
 | t :: r,n=>if t.n=n then some 0 else (vx r n).map (·+1)
def tokP (w:Wd) (S:St):Except Flt (Nat × St) :=
 match vx S.ts w.t with
 | some i=>.ok (i,S)
 | none=>if S.ts.length=40 then .error (zt w) else .ok (S.ts.length,⟨S.ws,S.ts++[⟨w.t,0,0⟩],S.ls++[false],S.lv,S.st,S.ed,S.ex,S.rs⟩)
def ku (w:Wd) (S:St):Except Flt St :=
 match tokP w S with
 | .error f=>.error f
 | .ok (i,S)=>if (S.ls[i]?).getD false=true then .error (vt w) else .ok ⟨S.ws,S.ts,S.ls.set i true,S.lv,S.st,S.ed,S.ex,S.rs⟩
def tkAt (ts:List Tk) (i:Nat):Tk:=(ts[i]?).getD ⟨⟨#[]⟩,0,0⟩
def levP (l a:Int) (w:Wd) (S:St):Except Flt St :=
 match tokP w S with
 | .error f=>.error f
 | .ok (i,S)=>if (tkAt S.ts i).l≠0 then .error (vt w) else .ok ⟨S.ws,S.ts.set i ⟨(tkAt S.ts i).n,l,a⟩,S.ls,S.lv,S.st,S.ed,S.ex,S.rs⟩
def z8 (say:Wd->St->Except Flt St):Nat->St->Except Flt St
 | 0,S=>.ok S
 | f+1,S =>
  match jf 1 S with
  | .error e=>.error e
  | .ok (w,S1) =>
   match say w S1 with
   | .error e=>.error e
   | .ok S2=>if S2.hd.k=1 then z8 say f S2 else .ok S2
def jc (key:Wd) (a:Int) (S:St):Except Flt St :=
 if S.lv=8 then .error (zt key) else z8 (levP ((S.lv:Int)+1) a) S.ws.length ⟨S.ws,S.ts,S.ls,S.lv+1,S.st,S.ed,S.ex,S.rs⟩
def qj1 (key:Wd) (S:St):Except Flt St :=
 if S.st≠⟨#[]⟩ then .error (vt key) else
  match jf 1 S with
  | .error e=>.error e
  | .ok (w,S1)=>.ok ⟨S1.ws,S1.ts,S1.ls,S1.lv,w.t,S1.ed,S1.ex,S1.rs⟩
def numP (l:List UInt8):Int:=l.foldl (fun a c=>a * 10+((c.toNat:Int) - 48)) 0
def qhf (key:Wd) (S:St):Except Flt St :=
 if S.ed=true then .error (vt key) else
  match jf 2 S with
  | .error e=>.error e
  | .ok (w,S1)=>.ok ⟨S1.ws,S1.ts,S1.ls,S1.lv,S1.st,true,numP (by8 w.t),S1.rs⟩
def tTok:ByteArray:=⟨#[37,116,111,107,101,110]⟩
def qng:ByteArray:=⟨#[37,108,101,102,116]⟩
def qgg:ByteArray:=⟨#[37,114,105,103,104,116]⟩
def tNon:ByteArray:=⟨#[37,110,111,110,97,115,115,111,99]⟩
def qgh:ByteArray:=⟨#[37,115,116,97,114,116]⟩
def tExp:ByteArray:=⟨#[37,101,120,112,101,99,116]⟩
def qjo:ByteArray:=⟨#[37,112,114,101,99]⟩
def tTwo:ByteArray:=⟨#[37,37]⟩
def tCol:ByteArray:=⟨#[58]⟩
def tBar:ByteArray:=⟨#[124]⟩
def qnh:ByteArray:=⟨#[59]⟩
def jg (S:St):Except Flt St :=
 if S.hd.t=tTok then z8 ku S.ws.length S.next
 else if S.hd.t=qng then jc S.hd 1 S.next
 else if S.hd.t=qgg then jc S.hd 2 S.next
 else if S.hd.t=tNon then jc S.hd 3 S.next
 else if S.hd.t=qgh then qj1 S.hd S.next
 else if S.hd.t=tExp then qhf S.hd S.next
 else .error (zt S.hd)
def symP:Nat->List ByteArray->St->Except Flt (List ByteArray × St)
 | 0,l,S=>.ok (l,S)
 | f+1,l,S=>if S.hd.k=1 then (if l.length=20 then .error (zt S.hd) else symP f (l++[S.hd.t]) S.next) else .ok (l,S)
def kt (S:St) (r:Ru):St:=⟨S.ws,S.ts,S.ls,S.lv,S.st,S.ed,S.ex,S.rs++[r]⟩
def altP (left:ByteArray) (S:St):Except Flt St :=
 if S.rs.length=100 then .error (zt S.hd) else
  match symP S.ws.length [] S with
  | .error e=>.error e
  | .ok (r,S1) =>
   if S1.hd.t=qjo then
    match jf 1 S1.next with
    | .error e=>.error e
    | .ok (w,S2)=>.ok (kt S2 ⟨left,r,w.t⟩)
   else .ok (kt S1 ⟨left,r,⟨#[]⟩⟩)
def j6 (left:ByteArray):Nat->St->Except Flt St
 | 0,S=>.ok S
 | f+1,S =>
  match altP left S with
  | .error e=>.error e
  | .ok S1=>if S1.hd.t=qnh then .ok S1.next else if S1.hd.t=tBar then j6 left f S1.next else .error (zt S1.hd)
def jx (S:St):Except Flt St :=
 match jf 1 S with
 | .error e=>.error e
 | .ok (w,S1)=>if S1.hd.t=tCol then j6 w.t S1.ws.length S1.next else .error (zt S1.hd)
def jp:Nat->St->Except Flt St
 | 0,S=>.ok S
 | f+1,S=>if S.hd.t=tTwo then .ok S.next else
  match jg S with
  | .error e=>.error e
  | .ok S1=>jp f S1
def jq:Nat->St->Except Flt St
 | 0,S=>.ok S
 | f+1,S=>if S.hd.k=5 then .ok S else
  match jx S with
  | .error e=>.error e
  | .ok S1=>jq f S1
def y8 (S:St):Except Flt St :=
 match jp S.ws.length S with
 | .error e=>.error e
 | .ok S1=>jq S1.ws.length S1
structure StOk (S:St):Prop where
 ends:Ends S.ws
 nt:S.ts.length<=40
 nl:S.ls.length=S.ts.length
 lv:S.lv<=8
 nr:S.rs.length<=100
theorem StOk.next{S:St}(h:StOk S)(a:Ends S.ws.tail):StOk S.next:=⟨a,h.nt,h.nl,h.lv,h.nr⟩
theorem vj{S:St}(h:StOk S):S.next.ws.length+1=S.ws.length:=by
 obtain⟨r,a⟩:=h.ends.head;show S.ws.tail.length+1=_;rw[a];rfl
theorem qbd{k:Int}{S:St}{f:Flt}(a:jf k S=.error f):S.hd.k≠k/\f=zt S.hd:=by
 unfold jf at a
 split at a
 ·cases a
 ·rename_i hc
  cases a
  exact⟨hc,rfl⟩
theorem qfr:∀{ts:List Tk} {n:ByteArray} {i:Nat},vx ts n=some i->∃t,ts[i]?=some t/\t.n=n
 | [],n,i,h=>by cases h
 | t :: r,n,i,h=>by
  unfold vx at h
  split at h
  ·rename_i hc
   cases h
   exact⟨t,rfl,hc⟩
  ·obtain⟨j,a,rfl⟩:=Option.map_eq_some_iff.1 h;obtain⟨u,c,b⟩:=qfr a;exact⟨u,by simpa using c,b⟩
theorem qcz{w:Wd}{S b:St}{i:Nat}(h:StOk S)(a:tokP w S=.ok (i,b)):StOk b/\i<b.ts.length/\b.ws=S.ws/\b.lv=S.lv:=by
 unfold tokP at a
 split at a
 ·rename_i j hj
  cases a
  obtain⟨t,a,-⟩:=qfr hj;exact⟨h,(List.getElem?_eq_some_iff.1 a).1,rfl,rfl⟩
 ·split at a
  ·cases a
  ·rename_i hc
   cases a
   refine⟨⟨h.ends,?_,?_,h.lv,h.nr⟩,?_,rfl,rfl⟩
   ·simp only[List.length_append,List.length_cons,List.length_nil];have:=h.nt;omega
   ·simp only[List.length_append,List.length_cons,List.length_nil];rw[h.nl]
   ·simp only[List.length_append,List.length_cons,List.length_nil];omega
theorem qqf{w:Wd}{S g:St}(h:StOk S)(f:ku w S=.ok g):StOk g/\g.ws=S.ws/\g.lv=S.lv:=by
 unfold ku at f
 split at f
 ·cases f
 ·rename_i i S2 h2;obtain⟨a,b,c,d⟩:=qcz h h2
  split at f
  ·cases f
  ·cases f
   exact⟨⟨a.ends,a.nt,by simp only[List.length_set];exact a.nl,a.lv,a.nr⟩,c,d⟩
theorem qse{l q:Int}{w:Wd}{S g:St}(h:StOk S)(f:levP l q w S=.ok g):StOk g/\g.ws=S.ws/\g.lv=S.lv:=by
 unfold levP at f
 split at f
 ·cases f
 ·rename_i i S2 h2;obtain⟨a,b,c,d⟩:=qcz h h2
  split at f
  ·cases f
  ·cases f
   exact⟨⟨a.ends,by simp only[List.length_set];exact a.nt,by simp only[List.length_set];exact a.nl,a.lv,a.nr⟩,c,d⟩
end Go.Proofs.YtbdogaaooeoccaaGreatDoor
namespace Go.Proofs.YtbdogaaooeoccaaGreatDoor
open Go.RowKit Go.Sort
theorem qaf:Tryz.prog.follows .mixedOrders=true:=by kernel_rfl
theorem qt{w b:World}{a:Addr}{v:Value}(c:Below w.heap.size w b)(h:w.cell? a=some v):b.cell? a=some v:=by
 have d:=World.block_lt_of_cell? w a h;rw[<-h]
 unfold World.cell?
 rw[c.block _ d]
def onto (w:World) (n:Nat) (os:Array Obj):World:=grow { w with drawn:=n } os
theorem ke(w:World)(n:Nat)(b:Array Obj):Below w.heap.size w (onto w n b):=by
 refine⟨rfl,rfl,rfl,by simp[onto,grow],fun k a=>?_⟩;unfold onto grow;simp only[Array.getElem?_append];rw[if_pos a]
theorem qi1{w a:World}(h:Below w.heap.size w a):∃n j,a=onto w n j:=by
 refine⟨a.drawn,a.heap.extract w.heap.size a.heap.size,?_⟩;obtain⟨l,p,k,o,m⟩:=a;obtain⟨b,c,d,g,f⟩:=h;simp only at b c d g f;unfold onto grow;simp only[b,c,d]
 congr 1
 apply Array.ext_getElem?
 intro i;rw[Array.getElem?_append]
 split
 ·rename_i hi;exact f i hi
 ·rename_i hi;rw[Array.getElem?_extract]
  split
  ·congr 1;omega
  ·rename_i hk;rw[Array.getElem?_eq_none (by omega)]
theorem zi{w:World}{a:Addr}{v:Value}(h:w.cell? a=some v)(n:Nat)(b:Array Obj):(onto w n b).cell? a=some v:=qt (ke w n b) h
theorem zn{f:Nat}{Q:Exit->Act->World->Prop}{a:Act}{w:World}{l:List Oper}(d:Region.lexB .any l.toArray=true)(h:wpQuiet Tryz.prog l.toArray (fun b=>∃p:GrownBy,b=onto w p.n p.os) (fun c=>∀b,(∃p:GrownBy,b=onto w p.n p.os)->Q .normal c b) l a):(Code.region f l.toArray true).wp Tryz.prog Q a w :=
 wp_region_quiet (C:=fun b=>∃p:GrownBy,b=onto w p.n p.os) qaf d ⟨⟨w.drawn+1,#[]⟩,by unfold onto;rw[grow_empty]⟩ (by simpa using h)
theorem vl{f:FuncId}{args:Array Value}{w:World}{n:Nat}{a:Array Obj}{v:Value}(h:Calls Tryz.prog f args (onto w n a) fun e i=>e=.returned v/\Below (onto w n a).heap.size (onto w n a) i):Calls Tryz.prog f args (onto w n a) fun e c=>e=.returned v/\∃p:GrownBy,c=onto w p.n p.os :=
 h.mono fun _ _ ⟨g,d⟩=>⟨g,by
  obtain⟨m,b,rfl⟩:=qi1 (qd (ke w n a) d)
  exact⟨⟨m,b⟩,rfl⟩⟩
theorem qag{f:FuncId}{args:Array Value}{w:World}{n:Nat}{a:Array Obj}{v:Value}(h:Calls Tryz.prog f args (onto w n a) fun e g=>e=.returned v/\g=onto w n a):Calls Tryz.prog f args (onto w n a) fun e b=>e=.returned v/\∃p:GrownBy,b=onto w p.n p.os :=
 h.mono fun _ _ ⟨d,c⟩=>⟨d,⟨n,a⟩,c⟩
structure Row (w:World) (k:Nat) (ao:Option Addr) (n cap:Nat) (cs:List Value):Prop where
 len:cs.length=n * k
 le:n<=cap
 max:cap<=maxLen
 lies:(ao=none/\n=0/\cap=0)\/∃b o,ao=some ⟨b,o,none⟩/\∀(j:Nat) (u:Value),cs[j]?=some u->w.cell? ⟨b,o+j,none⟩=some u
theorem Row.below{w d:World}{k:Nat}{c:Option Addr}{n a:Nat}{cs:List Value}(h:Row w k c n a cs)(f:Below w.heap.size w d):Row d k c n a cs :=
 ⟨h.len,h.le,h.max,h.lies.imp id fun⟨b,o,i,g⟩=>⟨b,o,i,fun j u l=>qt f (g j u l)⟩⟩
theorem Row.at{w:World}{k:Nat}{c:Option Addr}{n a:Nat}{cs:List Value}(h:Row w k c n a cs)(d:0<n):∃b o,c=some ⟨b,o,none⟩/\∀(j:Nat) (u:Value),cs[j]?=some u->w.cell? ⟨b,o+j,none⟩=some u:=by
 rcases h.lies with ⟨-,h0,-⟩ | h
 ·omega
 ·exact h
theorem Row.take{w:World}{k:Nat}{d:Option Addr}{n a:Nat}{cs:List Value}(h:Row w k d n a cs)(i:Nat)(f:i<=n):Row w k d i a (cs.take (i * k)):=by
 have g:=Nat.mul_le_mul_right k f;refine⟨by rw[List.length_take,h.len];omega,by have:=h.le;omega,h.max,?_⟩
 rcases h.lies with ⟨h1,h2,h3⟩ | ⟨b,o,he,hc⟩
 ·exact .inl ⟨h1,by omega,h3⟩
 ·refine .inr ⟨b,o,he,fun j u c=>hc j u ?_⟩;rw[List.getElem?_take]at c
  split at c
  ·exact c
  ·cases c
theorem Row.of_own{w:World}{a E k n:Nat}{d:Option Addr}{b:Nat}{cs:List Value}(h:w.ownsRow a E k (.slice d n b) n cs):Row w k d n b cs:=by
 obtain⟨m,c1,e,f,i,c⟩:=zo h
 cases e
 refine⟨h.1,f,i,?_⟩
 rcases c with c | ⟨g,rfl⟩
 ·exact .inl c
 ·refine .inr ⟨g,0,rfl,fun j u l=>?_⟩;have:=World.ownsRow.cells h (g:=g) rfl j u l
  rwa [Addr.add_lit]at this
def strC (l:List ByteArray):List Value:=l.map Value.string
def tokC (ts:List Tk):List Value:=ts.flatMap fun t=>[.string t.n,.int .i64 t.l,.int .i64 t.a]
def rulC (qs:List (Ru × Option Addr × Nat)):List Value:=qs.flatMap fun q=>[.string q.1.l,.slice q.2.1 q.1.r.length q.2.2,.string q.1.p]
theorem vm{α:Type}(f:α->List Value)(a:∀x,(f x).length=3):∀(l:List α) (i:Nat) (x:α) (j:Nat),l[i]?=some x->j<3->(l.flatMap f)[i * 3+j]?=(f x)[j]?
 | [],i,x,j,h,_=>by cases h
 | y :: r,0,x,j,h,hj=>by
  cases h
  rw[List.flatMap_cons,List.getElem?_append_left (by rw[a];omega)]
  rw[Nat.zero_mul,Nat.zero_add]
 | y :: r,i+1,x,j,h,hj=>by
  rw[List.flatMap_cons,List.getElem?_append_right (by rw[a];omega),a]
  rw[show(i+1) * 3+j - 3=i * 3+j by omega];exact vm f a r i x j h hj
theorem qah{α:Type}(f:α->List Value)(a:∀x,(f x).length=3):∀(l:List α),(l.flatMap f).length=l.length * 3
 | []=>rfl
 | y :: r=>by rw[List.flatMap_cons,List.length_append,a,qah f a r,List.length_cons];omega
theorem qni{α:Type}(f:α->List Value)(a:∀x,(f x).length=3)(l:List α)(i:Nat):(l.flatMap f).take (i * 3)=(l.take i).flatMap f:=by
 induction i generalizing l with
 | zero=>simp
 | succ i ih =>
  cases l with
  | nil=>simp
  | cons y r =>
   rw[List.take_succ_cons,List.flatMap_cons,List.flatMap_cons,List.take_append,a,List.take_of_length_le (by rw[a];omega),show(i+1) * 3 - 3=i * 3 by omega,ih]
theorem jd{w:World}{g:Option Addr}{n d:Nat}{ts:List Tk}(h:Row w 3 g n d (tokC ts)){i:Nat}{t:Tk}(c:ts[i]?=some t):
  ∃b o,g=some ⟨b,o,none⟩/\w.cell? ⟨b,o+i * 3,none⟩=some (.string t.n)/\w.cell? ⟨b,o+i * 3+1,none⟩=some (.int .i64 t.l)/\w.cell? ⟨b,o+i * 3+2,none⟩=some (.int .i64 t.a):=by
 have j:=h.len;unfold tokC at j;rw[qah _ (fun _=>rfl)]at j;have m:=(List.getElem?_eq_some_iff.1 c).1;obtain⟨b,o,k,f⟩:=h.at (by omega);refine⟨b,o,k,?_,?_,?_⟩
 ·exact f (i * 3+0) _ (by unfold tokC;rw[vm _ (fun _=>rfl) ts i t 0 c (by omega)];rfl)
 ·exact f (i * 3+1) _ (by unfold tokC;rw[vm _ (fun _=>rfl) ts i t 1 c (by omega)];rfl)
 ·exact f (i * 3+2) _ (by unfold tokC;rw[vm _ (fun _=>rfl) ts i t 2 c (by omega)];rfl)
theorem qtp{w:World}{f:Option Addr}{n c:Nat}{qs:List (Ru × Option Addr × Nat)}(h:Row w 3 f n c (rulC qs)){i:Nat}{q:Ru × Option Addr × Nat}(a:qs[i]?=some q):
  ∃b o,f=some ⟨b,o,none⟩/\w.cell? ⟨b,o+i * 3,none⟩=some (.string q.1.l)/\w.cell? ⟨b,o+i * 3+1,none⟩=some (.slice q.2.1 q.1.r.length q.2.2)/\w.cell? ⟨b,o+i * 3+2,none⟩=some (.string q.1.p):=by
 have g:=h.len;unfold rulC at g;rw[qah _ (fun _=>rfl)]at g;have k:=(List.getElem?_eq_some_iff.1 a).1;obtain⟨b,o,j,d⟩:=h.at (by omega);refine⟨b,o,j,?_,?_,?_⟩
 ·exact d (i * 3+0) _ (by unfold rulC;rw[vm _ (fun _=>rfl) qs i q 0 a (by omega)];rfl)
 ·exact d (i * 3+1) _ (by unfold rulC;rw[vm _ (fun _=>rfl) qs i q 1 a (by omega)];rfl)
 ·exact d (i * 3+2) _ (by unfold rulC;rw[vm _ (fun _=>rfl) qs i q 2 a (by omega)];rfl)
theorem jy{w:World}{c:Option Addr}{n a:Nat}{l:List ByteArray}(h:Row w 1 c n a (strC l)){i:Nat}{s:ByteArray}(f:l[i]?=some s):
  ∃b o,c=some ⟨b,o,none⟩/\w.cell? ⟨b,o+i,none⟩=some (.string s):=by
 have d:=h.len;unfold strC at d;rw[List.length_map]at d;have k:=(List.getElem?_eq_some_iff.1 f).1;obtain⟨b,o,j,g⟩:=h.at (by omega);exact⟨b,o,j,g i _ (by unfold strC;rw[List.getElem?_map,f];rfl)⟩
theorem qqg{w:World}{b:Option Addr}{n a:Nat}{ts:List Tk}(h:Row w 3 b n a (tokC ts))(i:Nat)(c:i<=n):Row w 3 b i a (tokC (ts.take i)):=by
 have:=h.take i c;unfold tokC at this ⊢
 rwa [qni _ (fun _=>rfl)]at this
def jm (w:World) (ao:Option Addr) (n cap:Nat) (rs:List Ru):Prop :=
 ∃qs:List (Ru × Option Addr × Nat),qs.map (·.1)=rs/\Row w 3 ao n cap (rulC qs)/\∀q∈qs,Row w 1 q.2.1 q.1.r.length q.2.2 (strC q.1.r)
theorem jm.below{w d:World}{b:Option Addr}{n a:Nat}{rs:List Ru}(h:jm w b n a rs)(c:Below w.heap.size w d):jm d b n a rs:=by
 obtain⟨qs,f,g,i⟩:=h;exact⟨qs,f,g.below c,fun q j=>(i q j).below c⟩
theorem jm.at{w:World}{c:Option Addr}{n a:Nat}{rs:List Ru}(h:jm w c n a rs){i:Nat}{r:Ru}(f:rs[i]?=some r):
  ∃b o g j,c=some ⟨b,o,none⟩/\w.cell? ⟨b,o+i * 3,none⟩=some (.string r.l)/\w.cell? ⟨b,o+i * 3+1,none⟩=some (.slice g r.r.length j)/\w.cell? ⟨b,o+i * 3+2,none⟩=some (.string r.p)/\Row w 1 g r.r.length j (strC r.r):=by
 obtain⟨qs,rfl,k,m⟩:=h;rw[List.getElem?_map]at f;obtain⟨q,d,rfl⟩:=Option.map_eq_some_iff.1 f;obtain⟨b,o,s,c0,c1,c2⟩:=qtp k d;exact⟨b,o,q.2.1,q.2.2,s,c0,c1,c2,m q (List.mem_of_getElem? d)⟩
structure Hd where
 ta:Option Addr
 tc:Nat
 ra:Option Addr
 rc:Nat
def gv (h:Hd) (G:Gm):Value:=.agg #[.slice h.ta G.ts.length h.tc,.string G.s,.int .i64 G.e,.slice h.ra G.rs.length h.rc]
structure IsG (w:World) (h:Hd) (G:Gm):Prop where
 tok:Row w 3 h.ta G.ts.length h.tc (tokC G.ts)
 rul:jm w h.ra G.rs.length h.rc G.rs
 small:Small G
theorem IsG.below{w b:World}{h:Hd}{G:Gm}(g:IsG w h G)(a:Below w.heap.size w b):IsG b h G:=⟨g.tok.below a,g.rul.below a,g.small⟩
end Go.Proofs.YtbdogaaooeoccaaGreatDoor
namespace Go.Proofs.YtbdogaaooeoccaaGreatDoor
open Go.RowKit
theorem qb(w:World)(o:Obj):Below w.heap.size w (w.alloc o):=(Below.refl _ _).alloc (Nat.le_refl _) _
theorem qp{w:World}{a:Addr}{v:Value}(h:w.cell? a=some v)(o:Obj):(w.alloc o).cell? a=some v:=qt (qb w o) h
theorem qnj(t:Tk)(c:Nat)(s:ByteArray)(w:World)(b:w.cell? ⟨c,0,none⟩=some (.string s)):
  Calls Tryz.prog 171 #[.agg #[.string t.n,.int .i64 t.l,.int .i64 t.a],.pointer (some ⟨c,0,none⟩)] w fun e d=>e=.returned (.bool (t.n.toList == s.toList))/\Below w.heap.size w d:=by
 have b:=qp b;go_enter Tryz.func171,Tryz.ntmps171;go_wp2;go_ret;exact⟨rfl,(Below.refl _ _).alloc (Nat.le_refl _) _⟩
def hasN (ts:List Tk) (s:ByteArray):Prop:=∃t∈ts,t.n=s
theorem qgi(ts:List Tk)(B:Option Addr)(n c x:Nat)(s:ByteArray)(w:World)(j:Row w 3 B n c (tokC ts))(D:n=ts.length)(I:n<=1000)(C:w.cell? ⟨x,0,none⟩=some (.string s)):
  Calls Tryz.prog 185 #[.slice B n c,.func (.func 171) #[] #[.pointer (some ⟨x,0,none⟩)]] w fun e L=>∃r:Int,e=.returned (.int .i64 r)/\(0<=r↔hasN ts s)/\Below w.heap.size w L:=by
 have y:=hid D;have z:=hid2 j C;have F:=j.le
 have H:c<=9223372036854775807:=by have:=j.max;unfold maxLen at this;omega
 clear j C D;go_enter Tryz.func185,Tryz.ntmps185;go_wp2
 go_loopg [8] n (fun kx s8 wr=>∃k:Nat,s8=.int .i64 k/\k<=n/\n - k<=kx/\Hid (Below w.heap.size w wr/\∀i t,i<k->ts[i]?=some t->t.n≠s))
 case atStart=>exact⟨0,rfl,Nat.zero_le _,by omega,(⟨Below.refl _ _,fun i t g=>absurd g (Nat.not_lt_zero _)⟩:Below w.heap.size w w/\∀i t,i<0->ts[i]?=some t->t.n≠s)⟩
 case round =>
  obtain⟨k,rfl,N,M,J⟩:=hrel
  by_cases p:k<n
  ·obtain⟨t,q⟩:∃t,ts[k]?=some t:=⟨ts[k]'(by rw[<-y.out];exact p),List.getElem?_eq_getElem _⟩
   obtain⟨b,o,rfl,c0,c1,c2⟩:=jd (z.out.1.below J.out.1) q;have A:=hid q;have d:=hid (qnj t x s wr (qt J.out.1 z.out.2));clear q
   by_cases a:t.n=s
   ·have f:=xv a;rw[f]at d
    have l:Hid (hasN ts s):=⟨t,List.mem_of_getElem? A.out,a⟩
    generalize t.n=K at c0 d;clear f a;go_wp2_with(go_at_call 171;refine d.out.mono ?_;rintro e w1 ⟨rfl,m⟩)
    go_ret;exact⟨k,rfl,⟨fun _=>l.out,fun _=>by omega⟩,qd J.out.1 m⟩
   ·have f:=xu a;rw[f]at d
    have l:Hid (∀i t,i<k+1->ts[i]?=some t->t.n≠s):=fun i u g v=>by
     rcases Nat.lt_or_ge i k with h | h
     ·exact J.out.2 i u h v
     ·have:i=k:=by omega
      subst this;rw[A.out]at v
      cases v
      exact a
    generalize t.n=K at c0 d;clear f a;go_wp2_with(go_at_call 171;refine d.out.mono ?_;rintro e w1 ⟨rfl,m⟩)
    go_roundg (n - (k+1))
    case measure=>omega
    case rel=>exact⟨k+1,by simp,by omega,Nat.le_refl _,(⟨qd J.out.1 m,l.out⟩:Below w.heap.size w w1/\∀i t,i<k+1->ts[i]?=some t->t.n≠s)⟩
  ·go_wp2;go_ret;refine⟨-1,rfl,⟨fun h=>by omega,fun⟨t,G,a⟩=>?_⟩,J.out.1⟩;obtain⟨i,g⟩:=List.getElem?_of_mem G;have E:=(List.getElem?_eq_some_iff.1 g).1;exact absurd a (J.out.2 i t (by rw[<-y.out]at E;omega) g)
theorem qhg(ts:List Tk)(b:Option Addr)(n a c:Nat)(s:ByteArray)(w:World)(r:Bool)(l:r=true↔hasN ts s)(m:Row w 3 b n a (tokC ts))(k:n=ts.length)(d:n<=1000)(i:w.cell? ⟨c,0,none⟩=some (.string s)):
  Calls Tryz.prog 170 #[.slice b n a,.func (.func 171) #[] #[.pointer (some ⟨c,0,none⟩)]] w fun e f=>e=.returned (.bool r)/\Below w.heap.size w f:=by
 have H1:Hid (Calls Tryz.prog 185 #[.slice b n a,.func (.func 171) #[] #[.pointer (some ⟨c,0,none⟩)]] w fun e f=>∃r:Int,e=.returned (.int .i64 r)/\(0<=r↔hasN ts s)/\Below w.heap.size w f) :=
  qgi ts b n a c s _ m k d i
 have o:=hid l;clear m k i l;go_enter Tryz.func170,Tryz.ntmps170;go_wp2_with fail;refine H1.out.mono ?_;rintro e w1 ⟨x,rfl,j,h⟩
 have g:Hid (r=decide (0<=x)/\Below w.heap.size w w1):=⟨by rw[Bool.eq_iff_iff,o.out,<-j];simp,h⟩
 clear j h;go_wp2_with fail;go_ret;exact⟨by rw[g.out.1];rfl,g.out.2⟩
theorem qi2(ts:List Tk)(b:Option Addr)(n a:Nat)(s:ByteArray)(w:World)(r:Bool)(h:r=true↔hasN ts s)(i:Row w 3 b n a (tokC ts))(g:n=ts.length)(c:n<=1000):
  Calls Tryz.prog 159 #[.slice b n a,.string s] w fun e d=>e=.returned (.bool r)/\Below w.heap.size w d:=by
 have j:Hid (Calls Tryz.prog 170 #[.slice b n a,.func (.func 171) #[] #[.pointer (some ⟨w.heap.size,0,none⟩)]] (w.alloc (.cells #[.string s] 9)) fun e d=>e=.returned (.bool r)/\Below (w.alloc (.cells #[.string s] 9)).heap.size (w.alloc (.cells #[.string s] 9)) d) :=
  qhg ts b n a w.heap.size s _ r h (i.below (qb _ _)) g c (by rw[World.cell?_alloc_mark];rfl)
 clear i g h;go_enter Tryz.func159,Tryz.ntmps159;go_wp2_with fail;refine j.out.mono ?_;rintro e w1 ⟨rfl,f⟩;have k:=hid (qd (qb _ _) f);clear f;go_wp2_with fail;go_ret;exact⟨rfl,k.out⟩
theorem zv(p:Prop):∃b:Bool,(b=true↔p):=by
 rcases Classical.em p with h | h
 ·exact⟨true,by simp[h]⟩
 ·exact⟨false,by simp[h]⟩
theorem xh{p:Prop}{b:Bool}(h:b=true↔p)(a:p):b=true:=h.2 a
theorem zj{p:Prop}{b:Bool}(h:b=true↔p)(a:¬p):b=false:=by
 cases b
 ·rfl
 ·exact absurd (h.1 rfl) a
theorem qhh(t:Tk)(w:World):
  Calls Tryz.prog 172 #[.agg #[.string t.n,.int .i64 t.l,.int .i64 t.a]] w fun e i=>e=.returned (.bool ((levB t)))/\Below w.heap.size w i:=by
 obtain⟨n,l,a⟩:=t
 have c:Hid (∀o:Obj,Below w.heap.size w (w.alloc o)):=fun o=>(Below.refl _ _).alloc (Nat.le_refl _) _
 by_cases b:l=0
 ·have H:Hid ((levB ⟨n,l,a⟩)=(a == 0)):=by
   show _=_;rw[Bool.eq_iff_iff,qas];unfold LevP;simp[b]
  have f:(l == 0)=true:=by simpa using b
  go_enter Tryz.func172,Tryz.ntmps172;go_wp2;go_ret;exact⟨by rw[H.out];rfl,c.out _⟩
 ·have f:(l == 0)=false:=by simpa using b
  by_cases d:1<=l
  ·by_cases g:l<=8
   ·by_cases h:1<=a
    ·have H:Hid ((levB ⟨n,l,a⟩)=decide (a<=3)):=by
      show _=_;rw[Bool.eq_iff_iff,qas];unfold LevP;simp[b,d,g,h]
     go_enter Tryz.func172,Tryz.ntmps172;go_wp2;go_ret;exact⟨by rw[H.out];rfl,c.out _⟩
    ·have H:Hid ((levB ⟨n,l,a⟩)=false):=by
      show _=_;rw[Bool.eq_false_iff,Ne,qas];unfold LevP;simp[b,d,g,h]
     go_enter Tryz.func172,Tryz.ntmps172;go_wp2;go_ret;exact⟨by rw[H.out];rfl,c.out _⟩
   ·have H:Hid ((levB ⟨n,l,a⟩)=false):=by
     show _=_;rw[Bool.eq_false_iff,Ne,qas];unfold LevP;simp[b,d,g]
    go_enter Tryz.func172,Tryz.ntmps172;go_wp2;go_ret;exact⟨by rw[H.out];rfl,c.out _⟩
  ·have H:Hid ((levB ⟨n,l,a⟩)=false):=by
    show _=_;rw[Bool.eq_false_iff,Ne,qas];unfold LevP;simp[b,d]
   go_enter Tryz.func172,Tryz.ntmps172;go_wp2;go_ret;exact⟨by rw[H.out];rfl,c.out _⟩
def ar9 (l:List Int):Array Value:=(l.map (Value.int .i64)).toArray
theorem nine{l:List Int}(h:l.length=9):∃a b c d e f g i j,l=[a,b,c,d,e,f,g,i,j]:=by
 match l,h with
 | [a,b,c,d,e,f,g,i,j],_=>exact⟨a,b,c,d,e,f,g,i,j,rfl⟩
theorem qgj{l:List Int}(h:l.length=9){k:Nat}(a:k<9):(ar9 l)[k]?=some (.int .i64 ((l[k]?).getD 0)):=by
 unfold ar9;rw[List.getElem?_toArray,List.getElem?_map,List.getElem?_eq_getElem (by omega)];rfl
theorem qe{w:World}{b:Nat}{cs:Array Value}{T:TypeId}{a:Nat × Nat}(c:w.heap[b]?=some (.cells cs T a))(j:Nat):w.cell? ⟨b,j,none⟩=cs[j]?:=by
 simp[World.cell?,c]
theorem qj{w:World}{b:Nat}{cs:Array Value}{T:TypeId}(a:w.heap[b]?=some (.cells cs T (0,0)))(j:Nat):w.frozen? ⟨b,j,none⟩=false:=by
 simp[World.frozen?,a]
theorem qor(l:List Int)(Q:l.length=9)(r:Bool)(R:r=true↔¬qbm l)(w:World):
  Calls Tryz.prog 173 #[.agg (ar9 l)] w fun e Y=>e=.returned (.bool r)/\Below w.heap.size w Y:=by
 have M:=hid R;clear R
 have n:Hid (∀k,k<9->(w.alloc (.cells (ar9 l) 182)).cell? ⟨w.heap.size,k,none⟩=some (.int .i64 ((l[k]?).getD 0))):=fun k V=>by
  rw[World.cell?_alloc_mark];exact qgj Q V
 have E:Hid (Below w.heap.size w (w.alloc (.cells (ar9 l) 182))):=qb _ _;obtain⟨a,b,c,d,e,f,g,i,j,S⟩:∃a b c d e f g i j,Hid (l=[a,b,c,d,e,f,g,i,j]):=nine Q
 have P:ar9 l=#[.int .i64 a,.int .i64 b,.int .i64 c,.int .i64 d,.int .i64 e,.int .i64 f,.int .i64 g,.int .i64 i,.int .i64 j]:=by rw[S.out];rfl
 have o:=n;rw[P]at o E ⊢;clear P n;go_enter Tryz.func173,Tryz.ntmps173
 go_upto_region 1 with fail
 generalize w.alloc (.cells #[.int .i64 a,.int .i64 b,.int .i64 c,.int .i64 d,.int .i64 e,.int .i64 f,.int .i64 g,.int .i64 i,.int .i64 j] 182)=w1 at o E ⊢;go_wp2
 go_loop [3] (fun v=>∃k:Nat,2<=k/\k<=9/\v=.int .i64 k/\Hid (∀m,2<=m->m<k->(l[m]?).getD 0≠0->(l[m - 1]?).getD 0≠0)) (fun v=>9 - (intOf v).toNat)
 case atStart=>exact⟨2,by omega,by omega,rfl,(fun m O F=>by omega:∀m,2<=m->m<2->(l[m]?).getD 0≠0->(l[m - 1]?).getD 0≠0)⟩
 case round =>
  obtain⟨k,F,Z,rfl,J⟩:=hrel
  by_cases C:k<9
  ·have c0:=o.out k C;have c1:=o.out (k - 1) (by omega)
   have p:Hid (¬((l[k]?).getD 0≠0/\(l[k - 1]?).getD 0=0)->∀m,2<=m->m<k+1->(l[m]?).getD 0≠0->(l[m - 1]?).getD 0≠0):=fun t m I X D N=>by
    rcases Nat.lt_or_ge m k with h | h
    ·exact J.out m I h D N
    ·have:m=k:=by omega
     subst this;exact t ⟨D,N⟩
   have z:Hid ((l[k]?).getD 0≠0/\(l[k - 1]?).getD 0=0->¬qbm l):=fun⟨T,U⟩ t=>t k F C T U
   have H:((k - 1:Nat):Int)=(k:Int) - 1:=by omega
   generalize (l[k]?).getD 0=x at c0 p z;generalize (l[k - 1]?).getD 0=y at c1 p z
   obtain⟨B,G⟩:∃B:Nat,k=B+1:=⟨k - 1,by omega⟩
   subst G;rw[show B+1 - 1=B by omega]at c1;clear H
   by_cases u:x=0
   ·have K:(x != 0)=false:=by simpa using u
    have q:=hid (p.out (fun h=>h.1 u));clear p z u;go_wp2
    go_round
    case rel=>exact⟨B+1+1,by omega,by omega,by simp,q⟩
    case measure=>simp[intOf];omega
   ·have K:(x != 0)=true:=by simpa using u
    by_cases A:y=0
    ·have L:(y == 0)=true:=by simpa using A
     have s:=hid (xh M.out (z.out ⟨u,A⟩));clear p z u A;go_wp2;go_ret;exact⟨by rw[s.out];rfl,E.out⟩
    ·have L:(y == 0)=false:=by simpa using A
     have q:=hid (p.out (fun h=>A h.2));clear p z u A;go_wp2
     go_round
     case rel=>exact⟨B+1+1,by omega,by omega,by simp,q⟩
     case measure=>simp[intOf];omega
  ·obtain rfl:k=9:=by omega
   have s:=hid (zj M.out (fun h=>absurd (fun k O F=>J.out k O F) h));go_wp2;go_ret;exact⟨by rw[s.out];rfl,E.out⟩
structure Kept (S:Nat->Prop) (w w':World):Prop where
 os:w'.os=w.os
 tape:w'.tape=w.tape
 output:w'.output=w.output
 size:w.heap.size<=w'.heap.size
 block:∀k,k<w.heap.size->¬S k->w'.heap[k]?=w.heap[k]?
theorem Kept.refl(S:Nat->Prop)(w:World):Kept S w w:=⟨rfl,rfl,rfl,Nat.le_refl _,fun _ _ _=>rfl⟩
theorem Kept.trans{S T:Nat->Prop}{a b c:World}(h:Kept S a b)(k:Kept T b c)(g:∀i,i<a.heap.size->T i->S i):Kept S a c :=
 ⟨k.os.trans h.os,k.tape.trans h.tape,k.output.trans h.output,Nat.le_trans h.size k.size,
  fun i d f=>(k.block i (Nat.lt_of_lt_of_le d h.size) (fun j=>f (g i d j))).trans (h.block i d f)⟩
theorem zm{S:Nat->Prop}{w a:World}(h:Below w.heap.size w a):Kept S w a:=⟨h.os,h.tape,h.output,h.size,fun k b _=>h.block k b⟩
theorem Kept.below{S:Nat->Prop}{w a:World}(h:Kept S w a){B:Nat}(d:B<=w.heap.size)(b:∀k,k<B->¬S k):Below B w a :=
 ⟨h.os,h.tape,h.output,h.size,fun k c=>h.block k (by omega) (b k c)⟩
theorem Kept.alloc{S:Nat->Prop}{a w:World}(h:Kept S a w)(o:Obj):Kept S a (w.alloc o) :=
 h.trans (T:=fun _=>False) (zm ((Below.refl _ _).alloc (Nat.le_refl _) _)) (fun _ _ f=>f.elim)
theorem Kept.drewN{S:Nat->Prop}{a w:World}(h:Kept S a w)(n:Nat):Kept S a (w.drewN n):=⟨h.os,h.tape,h.output,h.size,h.block⟩
theorem Kept.drew{S:Nat->Prop}{a w:World}(h:Kept S a w):Kept S a w.drew:=⟨h.os,h.tape,h.output,h.size,h.block⟩
theorem Kept.setCell{S:Nat->Prop}{a w:World}(h:Kept S a w)(p:Addr)(u:Value)(d:p.block<a.heap.size->S p.block):Kept S a (w.setCell p u) :=
 h.trans (T:=fun k=>k=p.block) ⟨rfl,rfl,rfl,by simp[World.setCell],fun k _ b=>Below.heap_setCell _ _ _ _ b⟩ (fun i c e=>by subst e;exact d c)
theorem qai{P:Program}(w:World)(t F e:TypeId)(i:TypeInfo)(z:Value)(size d:Nat)(K:P.underlying t=some (.slice e))(H:P.info? e=some i)(O:i.zero=some z)(p:i.size=size)(s:i.bytes=d)(E:z.cells.size=size)(D:0<size)(v:Value)(n:Nat)(xs:List Value)(l:w.ownsRow 0 e size v n xs)(a:Addr)(m c:Nat)(b:List Value)(C:b.length=m * size)(h:∀j u,b[j]?=some u->w.cell? (a.add j)=some u)(L:∀u∈b,u.oneCell'=true)(r:n+m<=maxLen)(f:(n+m) * d<=140737488355328):
  ∃v' G,(Builtin.append_ #[t,t] F #[v,.slice (some a) m c]).run P w=.ok v' G/\G.ownsRow 0 e size v' (n+m) (xs++b)/\Kept (fun k=>v.ownBlock=some k) w G /\
   (∀k,v'.ownBlock=some k->v.ownBlock=some k\/w.heap.size<=k):=by
 obtain⟨v',G,I,Q,y,-⟩:=run_append_own (P:=P) w 0 t F e i z size d K H O p s E D v n xs l a m c b C h L r f (Nat.zero_le _);refine⟨v',G,I,Q,⟨y.os,y.tape,y.output,y.size,fun k B N=>y.block k B (fun e=>N e.symm)⟩,fun k B=>?_⟩
 have J:n+m<=9223372036854775807:=by simp only[maxLen]at r;omega
 rcases l.2 with ⟨rfl,rfl⟩ | ⟨g,cap,cur,rfl,hbg,hg,hnc,hcm,hcs,htake⟩
 ·have R:=List.eq_nil_of_length_eq_zero (by simpa using l.1);subst R;obtain⟨S,w1,o,M,-,-⟩:=run_append_own (P:=P) w w.heap.size t F e i z size d K H O p s E D _ 0 [] (World.ownsRow_nil w _ e size) a m c b C h L r f (Nat.le_refl _);rw[I]at o
  injection o with e1 e2
  subst e1 e2;exact .inr (M.lt k B).1
 ·subst p s
  by_cases q:n+m<=cap
  ·have A:n * i.size+b.length<=cur.size:=by rw[C,hcs,<-Nat.add_mul];exact Nat.mul_le_mul_right _ q
   have o:=run_append_room (P:=P) w t F e i K H g n cap cur hg a m c b C h L q A;rw[I]at o
   injection o with e1 e2
   subst e1;exact .inl B
  ·have x:=l.cells (g:=g) rfl;have o:=run_append_grow (P:=P) w t F e i z K H O ⟨g,0,none⟩ n cap xs l.1 x a m c b C h (by omega) (by omega) (growslice_fits (by omega) f);rw[I]at o
   injection o with e1 e2
   subst e1;simp only[Value.ownBlock,Option.some.injEq]at B;exact .inr (by omega)
theorem qfs{P:Program}(w:World)(t u o e:TypeId)(i:TypeInfo)(x:P.underlying t=some (.slice e))(y:P.underlying u=some .string)(q:P.info? e=some i)(B:i.zero=some (.int .u8 0))(a:i.size=1)(d:i.bytes=1)(v:Value)(n:Nat)(xs:List Value)(b:w.ownsRow 0 e 1 v n xs)(s:ByteArray)(E:n+s.size<=100000000):
  ∃v' p,(Builtin.append_ #[t,u] o #[v,.string s]).run P w=.ok v' p/\p.ownsRow 0 e 1 v' (n+s.size) (xs++Lib.strCells s)/\Kept (fun k=>v.ownBlock=some k) w p /\
   (∀k,v'.ownBlock=some k->v.ownBlock=some k\/w.heap.size<=k):=by
 have l:n+s.size<=maxLen:=by unfold maxLen;omega
 obtain⟨v',p,r,C,j,-⟩:=Lib.run_append_own_string (P:=P) w 0 t u o e i x y q B a d v n xs b s l (by omega) (Nat.zero_le _);refine⟨v',p,r,C,⟨j.os,j.tape,j.output,j.size,fun k m A=>j.block k m (fun e=>A e.symm)⟩,fun k m=>?_⟩
 rcases b.2 with ⟨rfl,rfl⟩ | ⟨g,cap,cur,rfl,hbg,hg,hnc,hcm,hcs,htake⟩
 ·have D:=List.eq_nil_of_length_eq_zero (by simpa using b.1);subst D;obtain⟨F,w1,c,z,-,-⟩:=Lib.run_append_own_string (P:=P) w w.heap.size t u o e i x y q B a d _ 0 [] (World.ownsRow_nil w _ e 1) s l (by omega) (Nat.le_refl _);rw[r]at c
  injection c with e1 e2
  subst e1 e2;exact .inr (z.lt k m).1
 ·by_cases h:n+s.size<=cap
  ·have c:=Lib.run_append_room_string (P:=P) w t u o e i x y q a g n cap cur hg s h (by rw[Nat.mul_one]at hcs;omega)
   rw[r]at c
   injection c with e1 e2
   subst e1;exact .inl m
  ·have f:=b.cells (g:=g) rfl;have c:=Lib.run_append_grow_string (P:=P) w t u o e i (.int .u8 0) x y q B ⟨g,0,none⟩ n cap xs (by rw[a];simpa using b.1) f s (by omega) (by omega) (by rw[d];exact growslice_fits (by omega) (by omega))
   rw[r]at c
   injection c with e1 e2
   subst e1;simp only[Value.ownBlock,Option.some.injEq]at m;exact .inr (by omega)
structure Bld (w:World) (b:Nat) (v:Value) (l:List UInt8):Prop where
 head:∃p,w.heap[b]?=some (.cells #[.pointer p,v] 217 (0,0))/\(p=none\/p=some ⟨b,0,none⟩)
 own:w.ownsRow 0 5 1 v l.length (Lib.byteCells l)
 apart:v.ownBlock≠some b
def Foot (b:Nat) (v:Value) (k:Nat):Prop:=k=b\/v.ownBlock=some k
def zr (w:World) (b:Nat) (v:Value) (w':World) (v':Value):Prop:=Kept (Foot b v) w w'/\∀k,v'.ownBlock=some k->v.ownBlock=some k\/w.heap.size<=k
theorem Bld.lt{w:World}{b:Nat}{v:Value}{l:List UInt8}(h:Bld w b v l):∀k,Foot b v k->k<w.heap.size:=by
 rintro k (rfl | a)
 ·obtain⟨p,c,-⟩:=h.head;exact(Array.getElem?_eq_some_iff.1 c).1
 ·exact(h.own.lt k a).2
theorem Bld.kept{w g:World}{S:Nat->Prop}{b:Nat}{v:Value}{l:List UInt8}(h:Bld w b v l)(f:Kept S w g)(c:∀k,Foot b v k->¬S k):Bld g b v l:=by
 obtain⟨p,j,a⟩:=h.head;exact⟨⟨p,by rw[f.block b (h.lt b (.inl rfl)) (c b (.inl rfl))];exact j,a⟩,qh h.own (fun i d=>f.block i (h.lt i (.inr d)) (c i (.inr d))),h.apart⟩
theorem Bld.below{w a:World}{b:Nat}{v:Value}{l:List UInt8}(h:Bld w b v l)(c:Below w.heap.size w a):Bld a b v l :=
 h.kept (S:=fun _=>False) (zm c) (fun _ _ f=>f)
theorem zr.refl(w:World)(b:Nat)(v:Value):zr w b v w v:=⟨Kept.refl _ _,fun _ h=>.inl h⟩
theorem zr.trans{w w1 w2:World}{b:Nat}{v d f:Value}(h:zr w b v w1 d)(k:zr w1 b d w2 f):zr w b v w2 f :=
 ⟨h.1.trans k.1 (fun i c a=>by
   rcases a with a | a
   ·exact .inl a
   ·rcases h.2 i a with h1 | h1
    ·exact .inr h1
    ·omega),
  fun i c=>by
   rcases k.2 i c with h1 | h1
   ·exact h.2 i h1
   ·exact .inr (Nat.le_trans h.1.size h1)⟩
theorem zr.of_below{w a:World}{b:Nat}{v:Value}(h:Below w.heap.size w a):zr w b v a v:=⟨zm h,fun _ h=>.inl h⟩
theorem zr.below{w a:World}{b:Nat}{v v':Value}(h:zr w b v a v'){B:Nat}(c:B<=w.heap.size)(d:∀k,Foot b v k->B<=k):Below B w a :=
 h.1.below c (fun k g f=>by have:=d k f;omega)
def qnk (ts:List Tk) (l:List Int) (r:Bool):Prop:=l.length=9/\(r=true↔∃l,levF ts=some l/\qbm l)/\(r=true->levF ts=some l)
theorem qf{w a:World}{b:Nat}{o:Obj}(c:Below w.heap.size w a)(h:w.heap[b]?=some o):a.heap[b]?=some o:=by
 rw[c.block b (Array.getElem?_eq_some_iff.1 h).1];exact h
structure LevM (ts:List Tk) (w wr:World) (k:Nat) (l:List Int):Prop where
 lev:levF (ts.take k)=some l
 res:wr.heap[w.heap.size]?=some (.cells (ar9 jw) 182 (0,0))
 arr:wr.heap[w.heap.size+1]?=some (.cells (ar9 l) 182 (0,0))
 bel:Below w.heap.size w wr
theorem qz(w:World)(o:Obj):(w.alloc o).heap.size=w.heap.size+1:=by simp
theorem LevM.step{ts:List Tk}{w wr a:World}{k:Nat}{l:List Int}(h:LevM ts w wr k l)(b:Below wr.heap.size wr a):LevM ts w a k l :=
 ⟨h.lev,qf b h.res,qf b h.arr,qd h.bel b⟩
theorem LevM.drew{ts:List Tk}{w wr:World}{k:Nat}{l:List Int}(h:LevM ts w wr k l):LevM ts w wr.drew k l:=⟨h.lev,h.res,h.arr,h.bel.drew⟩
theorem LevM.cell{ts:List Tk}{w wr:World}{k:Nat}{l:List Int}(h:LevM ts w wr k l){m:Nat}(a:m<9):wr.cell? ⟨w.heap.size+1,m,none⟩=some (.int .i64 ((l[m]?).getD 0)):=by
 rw[qe h.arr];exact qgj (yv h.lev) a
theorem qmp(l:List Int)(m:Nat)(a:Int):(ar9 l).setIfInBounds m (.int .i64 a)=ar9 (l.set m a):=by
 unfold ar9;rw[List.setIfInBounds_toArray,List.map_set]
theorem LevM.put{ts:List Tk}{w wr:World}{k b m:Nat}{l:List Int}{a:Int}(h:LevM ts w wr k l)(c:levF (ts.take b)=some (l.set m a)):LevM ts w (wr.setCell ⟨w.heap.size+1,m,none⟩ (.int .i64 a)) b (l.set m a):=by
 refine⟨c,?_,?_,h.bel.setCell (p:=⟨w.heap.size+1,m,none⟩) (Nat.le_succ _) _⟩
 ·rw[Below.heap_setCell _ _ _ _ (by simp)];exact h.res
 ·rw[setCell_eq_setRow wr (w.heap.size+1) m _ 182 (0,0) _ h.arr,qmp];exact setRow_heap _ _ _ _ 182 _ h.arr
theorem qau(ts:List Tk)(ao:Option Addr)(n P:Nat)(w:World)(L:Row w 3 ao n P (tokC ts))(hn:n=ts.length)(a6:n<=1000):
  Calls Tryz.prog 160 #[.slice ao n P] w fun e w'=>∃(l:List Int) (r:Int),e=.returned (.tuple #[.agg (ar9 l),.bool (decide (r=1))])/\qnk ts l (decide (r=1))/\Below w.heap.size w w':=by
 have HN:=hid hn;have HR:=hid L;have a4:=L.le
 have a5:P<=9223372036854775807:=by have:=L.max;unfold maxLen at this;omega
 clear L hn;go_enter Tryz.func160,Tryz.ntmps160;go_wp2
 go_loopg [9] n (fun kx s9 wr=>∃k:Nat,s9=.int .i64 k/\k<=n/\n - k<=kx/\Hid (∃l,LevM ts w wr k l))
 case atStart=>exact⟨0,rfl,Nat.zero_le _,by omega,(⟨jw,rfl,qf (qb _ _) (heap_alloc_new _ _),by have:=heap_alloc_new (w.alloc (.cells (ar9 jw) 182)) (.cells (ar9 jw) 182);rw[qz]at this;exact this,qd (qb _ _) (qb _ _)⟩:∃l,LevM ts w _ 0 l)⟩
 case round =>
  obtain⟨k,rfl,hk,hg,J⟩:=hrel;obtain⟨l,JJ⟩:=J.out;have d:=hid JJ;have K:=yv JJ.lev;clear J JJ
  by_cases a0:k<n
  ·obtain⟨t,ht⟩:∃t,ts[k]?=some t:=⟨ts[k]'(by rw[<-HN.out];exact a0),List.getElem?_eq_getElem _⟩
   obtain⟨b,o,rfl,c0,c1,c2⟩:=jd (HR.out.below d.out.bel) ht;have HT:=hid ht;obtain⟨F,D,q⟩:=t;simp only at c0 c1 c2;clear ht
   go_upto_region 5 with fail
   have C:Hid (LevM ts w (wr.alloc (.cells #[.string F,.int .i64 D,.int .i64 q] 40)) k l):=d.out.step (qb _ _)
   have Q:(wr.alloc (.cells #[.string F,.int .i64 D,.int .i64 q] 40)).cell? ⟨wr.heap.size,0,none⟩=some (.string F):=by rw[World.cell?_alloc_mark];rfl
   have H:(wr.alloc (.cells #[.string F,.int .i64 D,.int .i64 q] 40)).cell? ⟨wr.heap.size,1,none⟩=some (.int .i64 D):=by rw[World.cell?_alloc_mark];rfl
   have I:(wr.alloc (.cells #[.string F,.int .i64 D,.int .i64 q] 40)).cell? ⟨wr.heap.size,2,none⟩=some (.int .i64 q):=by rw[World.cell?_alloc_mark];rfl
   generalize wr.alloc (.cells #[.string F,.int .i64 D,.int .i64 q] 40)=N at C Q H I ⊢;generalize wr.heap.size=tb at Q H I ⊢
   have A:Hid (∀W:World,Calls Tryz.prog 172 #[.agg #[.string F,.int .i64 D,.int .i64 q]] W fun e w'=>e=.returned (.bool (levB ⟨F,D,q⟩))/\Below W.heap.size W w'):=fun W=>qhh ⟨F,D,q⟩ W
   clear c0 c1 c2 d;have g0:=zi Q;have g1:=zi H;have g2:=zi I
   by_cases M:LevP ⟨F,D,q⟩
   ·have hd:=qas.2 M;rw[hd]at A
    obtain⟨m,hm⟩:∃m:Nat,D=m:=⟨D.toNat,by rcases M with h | h <;> (simp only at h;omega)⟩
    subst hm
    have a1:m<9:=by rcases M with h | h <;> (simp only at h;omega)
    have R:=C.out.cell a1;have gx:=zi R
    have s:Hid (levF (ts.take (k+1))=if (l[m]?).getD 0=0\/(l[m]?).getD 0=q then some (l.set m q) else none):=by
     show _=_;rw[zw HT.out,qcg,C.out.lev];unfold levS at9;simp[M]
    generalize (l[m]?).getD 0=x at R gx s;clear M hd
    by_cases z:x=0
    ·have a2:(x != 0)=false:=by simpa using z
     have O:Hid (levF (ts.take (k+1))=some (l.set m q)):=by have:=s.out;rwa [if_pos (.inl z)]at this
     clear s z;refine zn (by kernel_rfl) ?_
     repeat (go_big_quiet_step (first | (go_at_call 172;exact vl (A.out _))))
     refine wpQuiet_nil ?_;intro _ y;obtain⟨⟨nq,c⟩,u⟩:=y;subst u;have a:Hid (LevM ts w (onto N nq c) k l):=C.out.step (ke _ _ _);have H:=g1 nq c;have I:=g2 nq c;have R:=gx nq c;simp only;generalize onto N nq c=f at a H I R ⊢;clear g0 g1 g2 Q A C gx;have fx:=qj a.out.arr m;go_wp2;go_roundg (n - (k+1))
     case measure=>omega
     case rel=>exact⟨k+1,by simp,by omega,Nat.le_refl _,(⟨l.set m q,a.out.put O.out⟩:∃l,LevM ts w _ (k+1) l)⟩
    ·have a2:(x != 0)=true:=by simpa using z
     by_cases B:x=q
     ·have a3:(x != q)=false:=by simpa using B
      have O:Hid (levF (ts.take (k+1))=some (l.set m q)):=by have:=s.out;rwa [if_pos (.inr B)]at this
      clear s z B;refine zn (by kernel_rfl) ?_
      repeat (go_big_quiet_step (first | (go_at_call 172;exact vl (A.out _))))
      refine wpQuiet_nil ?_;intro _ y;obtain⟨⟨nq,c⟩,u⟩:=y;subst u;have a:Hid (LevM ts w (onto N nq c) k l):=C.out.step (ke _ _ _);have H:=g1 nq c;have I:=g2 nq c;have R:=gx nq c;simp only;generalize onto N nq c=f at a H I R ⊢;clear g0 g1 g2 Q A C gx;have fx:=qj a.out.arr m;go_wp2;go_roundg (n - (k+1))
      case measure=>omega
      case rel=>exact⟨k+1,by simp,by omega,Nat.le_refl _,(⟨l.set m q,a.out.put O.out⟩:∃l,LevM ts w _ (k+1) l)⟩
     ·have a3:(x != q)=true:=by simpa using B
      have HF:Hid (levF ts=none):=qdg (k:=k+1) (by have:=s.out;rwa [if_neg (fun h=>h.elim z B)]at this)
      clear s z B;refine zn (by kernel_rfl) ?_
      repeat (go_big_quiet_step (first | (go_at_call 172;exact vl (A.out _))))
      refine wpQuiet_nil ?_;intro _ y;obtain⟨⟨nq,c⟩,u⟩:=y;subst u;have a:Hid (LevM ts w (onto N nq c) k l):=C.out.step (ke _ _ _);simp only;generalize onto N nq c=f at a ⊢;clear g0 g1 g2 Q H I A C gx R;have rc:=qj a.out.res;have r0:f.cell? ⟨w.heap.size,0,none⟩=some (.int .i64 0):=qe a.out.res 0;have r1:f.cell? ⟨w.heap.size,1,none⟩=some (.int .i64 0):=qe a.out.res 1;have r2:f.cell? ⟨w.heap.size,2,none⟩=some (.int .i64 0):=qe a.out.res 2;have r3:f.cell? ⟨w.heap.size,3,none⟩=some (.int .i64 0):=qe a.out.res 3;have r4:f.cell? ⟨w.heap.size,4,none⟩=some (.int .i64 0):=qe a.out.res 4;have r5:f.cell? ⟨w.heap.size,5,none⟩=some (.int .i64 0):=qe a.out.res 5;have r6:f.cell? ⟨w.heap.size,6,none⟩=some (.int .i64 0):=qe a.out.res 6;have r7:f.cell? ⟨w.heap.size,7,none⟩=some (.int .i64 0):=qe a.out.res 7;have r8:f.cell? ⟨w.heap.size,8,none⟩=some (.int .i64 0):=qe a.out.res 8;go_wp2;have E:=hid a.out.bel;refine bodyPost_ret (v:=.tuple #[.agg (ar9 jw),.bool false]) (by simp[results,Tryz.results160,go_sem,r0,r1,r2,r3,r4,r5,r6,r7,r8,ar9,jw]) rfl ?_;refine⟨jw,0,rfl,⟨rfl,⟨fun h=>(by cases h),fun⟨l',h,_⟩=>(by rw[HF.out]at h;cases h)⟩,fun h=>(by cases h)⟩,?_⟩
      exact(((((((((E.out.setCell (p:=⟨w.heap.size,0,none⟩) (Nat.le_refl _) _).setCell (p:=⟨w.heap.size,1,none⟩) (Nat.le_refl _) _).setCell (p:=⟨w.heap.size,2,none⟩) (Nat.le_refl _) _).setCell (p:=⟨w.heap.size,3,none⟩) (Nat.le_refl _) _).setCell (p:=⟨w.heap.size,4,none⟩) (Nat.le_refl _) _).setCell (p:=⟨w.heap.size,5,none⟩) (Nat.le_refl _) _).setCell (p:=⟨w.heap.size,6,none⟩) (Nat.le_refl _) _).setCell (p:=⟨w.heap.size,7,none⟩) (Nat.le_refl _) _).setCell (p:=⟨w.heap.size,8,none⟩) (Nat.le_refl _) _)
   ·have hd:=qqb M;rw[hd]at A;have HF:=hid (qdg (k:=k+1) (by rw[zw HT.out,qcg,C.out.lev];unfold levS;simp[M]))
    clear M hd;refine zn (by kernel_rfl) ?_
    repeat (go_big_quiet_step (first | (go_at_call 172;exact vl (A.out _))))
    refine wpQuiet_nil ?_;intro _ y;obtain⟨⟨nq,c⟩,u⟩:=y;subst u;have a:Hid (LevM ts w (onto N nq c) k l):=C.out.step (ke _ _ _);simp only;generalize onto N nq c=f at a ⊢;clear g0 g1 g2 Q H I A C;have rc:=qj a.out.res;have r0:f.cell? ⟨w.heap.size,0,none⟩=some (.int .i64 0):=qe a.out.res 0;have r1:f.cell? ⟨w.heap.size,1,none⟩=some (.int .i64 0):=qe a.out.res 1;have r2:f.cell? ⟨w.heap.size,2,none⟩=some (.int .i64 0):=qe a.out.res 2;have r3:f.cell? ⟨w.heap.size,3,none⟩=some (.int .i64 0):=qe a.out.res 3;have r4:f.cell? ⟨w.heap.size,4,none⟩=some (.int .i64 0):=qe a.out.res 4;have r5:f.cell? ⟨w.heap.size,5,none⟩=some (.int .i64 0):=qe a.out.res 5;have r6:f.cell? ⟨w.heap.size,6,none⟩=some (.int .i64 0):=qe a.out.res 6;have r7:f.cell? ⟨w.heap.size,7,none⟩=some (.int .i64 0):=qe a.out.res 7;have r8:f.cell? ⟨w.heap.size,8,none⟩=some (.int .i64 0):=qe a.out.res 8;go_wp2;have E:=hid a.out.bel;refine bodyPost_ret (v:=.tuple #[.agg (ar9 jw),.bool false]) (by simp[results,Tryz.results160,go_sem,r0,r1,r2,r3,r4,r5,r6,r7,r8,ar9,jw]) rfl ?_;refine⟨jw,0,rfl,⟨rfl,⟨fun h=>(by cases h),fun⟨l',h,_⟩=>(by rw[HF.out]at h;cases h)⟩,fun h=>(by cases h)⟩,?_⟩
    exact(((((((((E.out.setCell (p:=⟨w.heap.size,0,none⟩) (Nat.le_refl _) _).setCell (p:=⟨w.heap.size,1,none⟩) (Nat.le_refl _) _).setCell (p:=⟨w.heap.size,2,none⟩) (Nat.le_refl _) _).setCell (p:=⟨w.heap.size,3,none⟩) (Nat.le_refl _) _).setCell (p:=⟨w.heap.size,4,none⟩) (Nat.le_refl _) _).setCell (p:=⟨w.heap.size,5,none⟩) (Nat.le_refl _) _).setCell (p:=⟨w.heap.size,6,none⟩) (Nat.le_refl _) _).setCell (p:=⟨w.heap.size,7,none⟩) (Nat.le_refl _) _).setCell (p:=⟨w.heap.size,8,none⟩) (Nat.le_refl _) _)
  ·obtain rfl:k=n:=by omega
   have G:Hid (levF ts=some l):=by have:=d.out.lev;rwa [HN.out,List.take_length]at this
   obtain⟨r,L⟩:=zv (¬qbm l)
   have A:Hid (∀W:World,Calls Tryz.prog 173 #[.agg (ar9 l)] W fun e w'=>e=.returned (.bool r)/\Below W.heap.size W w'):=fun W=>qor l K r L W
   have HO:Hid (qnk ts l (!r)):=⟨K,⟨fun h=>⟨l,G.out,(by rcases Classical.em (qbm l) with h1 | h1;exact h1;rw[xh L h1]at h;cases h)⟩,fun⟨l',h1,h2⟩=>(by rw[G.out]at h1;cases h1;rw[zj L (fun h=>h h2)];rfl)⟩,fun _=>G.out⟩
   clear L G
   go_upto_region 9 with fail
   obtain⟨S,T,U,V,X,Y,Z,xi,xj,rfl⟩:=nine K;have hA:ar9 [S,T,U,V,X,Y,Z,xi,xj]=#[.int .i64 S,.int .i64 T,.int .i64 U,.int .i64 V,.int .i64 X,.int .i64 Y,.int .i64 Z,.int .i64 xi,.int .i64 xj]:=rfl;rw[hA]at A;have rz:=qj d.out.res;have r0:wr.cell? ⟨w.heap.size,0,none⟩=some (.int .i64 0):=qe d.out.res 0;have q0:wr.cell? ⟨w.heap.size+1,0,none⟩=some (.int .i64 S):=qe d.out.arr 0;have r1:wr.cell? ⟨w.heap.size,1,none⟩=some (.int .i64 0):=qe d.out.res 1;have q1:wr.cell? ⟨w.heap.size+1,1,none⟩=some (.int .i64 T):=qe d.out.arr 1;have r2:wr.cell? ⟨w.heap.size,2,none⟩=some (.int .i64 0):=qe d.out.res 2;have q2:wr.cell? ⟨w.heap.size+1,2,none⟩=some (.int .i64 U):=qe d.out.arr 2;have r3:wr.cell? ⟨w.heap.size,3,none⟩=some (.int .i64 0):=qe d.out.res 3;have q3:wr.cell? ⟨w.heap.size+1,3,none⟩=some (.int .i64 V):=qe d.out.arr 3;have r4:wr.cell? ⟨w.heap.size,4,none⟩=some (.int .i64 0):=qe d.out.res 4;have q4:wr.cell? ⟨w.heap.size+1,4,none⟩=some (.int .i64 X):=qe d.out.arr 4;have r5:wr.cell? ⟨w.heap.size,5,none⟩=some (.int .i64 0):=qe d.out.res 5;have q5:wr.cell? ⟨w.heap.size+1,5,none⟩=some (.int .i64 Y):=qe d.out.arr 5;have r6:wr.cell? ⟨w.heap.size,6,none⟩=some (.int .i64 0):=qe d.out.res 6;have q6:wr.cell? ⟨w.heap.size+1,6,none⟩=some (.int .i64 Z):=qe d.out.arr 6;have r7:wr.cell? ⟨w.heap.size,7,none⟩=some (.int .i64 0):=qe d.out.res 7;have q7:wr.cell? ⟨w.heap.size+1,7,none⟩=some (.int .i64 xi):=qe d.out.arr 7;have r8:wr.cell? ⟨w.heap.size,8,none⟩=some (.int .i64 0):=qe d.out.res 8;have q8:wr.cell? ⟨w.heap.size+1,8,none⟩=some (.int .i64 xj):=qe d.out.arr 8;clear K HR hA
   go_region_with(go_at_call 173;refine(A.out _).mono ?_;rintro e i ⟨rfl,hB⟩;have g:Hid (LevM ts w i k [S,T,U,V,X,Y,Z,xi,xj]):=d.out.drew.step hB;clear hB;have rz:∀j,i.frozen? ⟨w.heap.size,j,none⟩=false:=qj g.out.res;have r0:i.cell? ⟨w.heap.size,0,none⟩=some (.int .i64 0):=qe g.out.res 0;have q0:i.cell? ⟨w.heap.size+1,0,none⟩=some (.int .i64 S):=qe g.out.arr 0;have r1:i.cell? ⟨w.heap.size,1,none⟩=some (.int .i64 0):=qe g.out.res 1;have q1:i.cell? ⟨w.heap.size+1,1,none⟩=some (.int .i64 T):=qe g.out.arr 1;have r2:i.cell? ⟨w.heap.size,2,none⟩=some (.int .i64 0):=qe g.out.res 2;have q2:i.cell? ⟨w.heap.size+1,2,none⟩=some (.int .i64 U):=qe g.out.arr 2;have r3:i.cell? ⟨w.heap.size,3,none⟩=some (.int .i64 0):=qe g.out.res 3;have q3:i.cell? ⟨w.heap.size+1,3,none⟩=some (.int .i64 V):=qe g.out.arr 3;have r4:i.cell? ⟨w.heap.size,4,none⟩=some (.int .i64 0):=qe g.out.res 4;have q4:i.cell? ⟨w.heap.size+1,4,none⟩=some (.int .i64 X):=qe g.out.arr 4;have r5:i.cell? ⟨w.heap.size,5,none⟩=some (.int .i64 0):=qe g.out.res 5;have q5:i.cell? ⟨w.heap.size+1,5,none⟩=some (.int .i64 Y):=qe g.out.arr 5;have r6:i.cell? ⟨w.heap.size,6,none⟩=some (.int .i64 0):=qe g.out.res 6;have q6:i.cell? ⟨w.heap.size+1,6,none⟩=some (.int .i64 Z):=qe g.out.arr 6;have r7:i.cell? ⟨w.heap.size,7,none⟩=some (.int .i64 0):=qe g.out.res 7;have q7:i.cell? ⟨w.heap.size+1,7,none⟩=some (.int .i64 xi):=qe g.out.arr 7;have r8:i.cell? ⟨w.heap.size,8,none⟩=some (.int .i64 0):=qe g.out.res 8;have q8:i.cell? ⟨w.heap.size+1,8,none⟩=some (.int .i64 xj):=qe g.out.arr 8)
   all_goals
    obtain⟨ri,HI⟩:∃ri:Int,Hid (decide (ri=1)=!r):=by
     cases r
     ·exact⟨1,rfl⟩
     ·exact⟨0,rfl⟩
    have E:=hid g.out.bel;go_wp2;refine bodyPost_ret (v:=.tuple #[.agg (ar9 [S,T,U,V,X,Y,Z,xi,xj]),.bool (!r)]) (by simp[results,Tryz.results160,go_sem,r0,r1,r2,r3,r4,r5,r6,r7,r8,ar9]) rfl ?_;exact⟨[S,T,U,V,X,Y,Z,xi,xj],ri,by rw[HI.out],by rw[HI.out];exact HO.out,(((((((((E.out.setCell (p:=⟨w.heap.size,0,none⟩) (Nat.le_refl _) _).setCell (p:=⟨w.heap.size,1,none⟩) (Nat.le_refl _) _).setCell (p:=⟨w.heap.size,2,none⟩) (Nat.le_refl _) _).setCell (p:=⟨w.heap.size,3,none⟩) (Nat.le_refl _) _).setCell (p:=⟨w.heap.size,4,none⟩) (Nat.le_refl _) _).setCell (p:=⟨w.heap.size,5,none⟩) (Nat.le_refl _) _).setCell (p:=⟨w.heap.size,6,none⟩) (Nat.le_refl _) _).setCell (p:=⟨w.heap.size,7,none⟩) (Nat.le_refl _) _).setCell (p:=⟨w.heap.size,8,none⟩) (Nat.le_refl _) _)⟩
def wdC (ws:List Wd):List Value:=ws.flatMap fun x=>[.int .i64 x.k,.string x.t,.int .i64 x.a]
def rtC (ts:List (Tk × Bool)):List Value:=ts.flatMap fun x=>[.string x.1.n,.int .i64 x.1.l,.int .i64 x.1.a,.bool x.2]
structure RHd where
 wb:Nat
 wo:Nat
 wc:Nat
 ta:Option Addr
 tc:Nat
 ra:Option Addr
 rc:Nat
def rdC (h:RHd) (S:St):Array Value:=#[.slice (some ⟨h.wb,h.wo,none⟩) S.ws.length h.wc,.slice h.ta S.ts.length h.tc,.int .i64 S.lv,.string S.st,.bool S.ed,.int .i64 S.ex,.slice h.ra S.rs.length h.rc]
def OwnT (w:World) (base:Nat) (v:Value) (l:List ByteArray):Prop:=w.ownsRow base 9 1 v l.length (strC l)
structure RD (w W:World) (rb:Nat) (h:RHd) (S:St) (qs:List (Ru × Option Addr × Nat)):Prop where
 box:W.heap[rb]?=some (.cells (rdC h S) 192 (0,0))
 wds:Row w 3 (some ⟨h.wb,h.wo,none⟩) S.ws.length h.wc (wdC S.ws)
 tok:W.ownsRow w.heap.size 205 4 (.slice h.ta S.ts.length h.tc) S.ts.length (rtC (S.ts.zip S.ls))
 rul:W.ownsRow w.heap.size 42 3 (.slice h.ra S.rs.length h.rc) S.rs.length (rulC qs)
 map:qs.map (·.1)=S.rs
 row:∀q∈qs,OwnT W w.heap.size (.slice q.2.1 q.1.r.length q.2.2) q.1.r
 bel:Below w.heap.size w W
 new:w.heap.size<=rb
 ok:StOk S
theorem OwnT.below{w b:World}{a:Nat}{v:Value}{l:List ByteArray}(o:OwnT w a v l)(c:Below w.heap.size w b):OwnT b a v l :=
 qh o (fun i d=>c.block i (World.ownsRow.lt o i d).2)
theorem RD.step{w W c:World}{d:Nat}{h:RHd}{S:St}{qs:List (Ru × Option Addr × Nat)}(r:RD w W d h S qs)(a:Below W.heap.size W c):RD w c d h S qs :=
 ⟨qf a r.box,r.wds,qh r.tok (fun i b=>a.block i (World.ownsRow.lt r.tok i b).2),qh r.rul (fun i b=>a.block i (World.ownsRow.lt r.rul i b).2),r.map,fun q f=>(r.row q f).below a,qd r.bel a,r.new,r.ok⟩
def wv (w:Wd):Value:=.agg #[.int .i64 w.k,.string w.t,.int .i64 w.a]
def fv (f:Flt):Value:=.agg #[.int .i64 f.1,.int .i64 f.2]
theorem RD.head{w W:World}{i:Nat}{h:RHd}{S:St}{qs:List (Ru × Option Addr × Nat)}(r:RD w W i h S qs):
  W.cell? ⟨h.wb,h.wo,none⟩=some (.int .i64 S.hd.k)/\W.cell? ⟨h.wb,h.wo+1,none⟩=some (.string S.hd.t)/\W.cell? ⟨h.wb,h.wo+2,none⟩=some (.int .i64 S.hd.a):=by
 obtain⟨x,g⟩:=r.ok.ends.head;have f:=r.wds.below r.bel;obtain⟨b,o,d,c⟩:=f.at (by have:=r.ok.ends.pos;omega)
 cases d
 have e:wdC S.ws=[.int .i64 S.hd.k,.string S.hd.t,.int .i64 S.hd.a]++wdC x:=by
  conv=>lhs;rw[g]
  rfl
 rw[e]at c;exact⟨c 0 _ rfl,c 1 _ rfl,c 2 _ rfl⟩
theorem RD.lens{w W:World}{b:Nat}{h:RHd}{S:St}{qs:List (Ru × Option Addr × Nat)}(r:RD w W b h S qs):1<=S.ws.length/\S.ws.length<=h.wc/\h.wc<=9223372036854775807:=by
 have c:=r.wds.le;have a:=r.wds.max;have d:=r.ok.ends.pos;unfold maxLen at a;omega
theorem k8(w W:World)(b:Nat)(h:RHd)(S:St)(qs:List (Ru × Option Addr × Nat))(r:RD w W b h S qs):
  Calls Tryz.prog 179 #[.pointer (some ⟨b,0,none⟩)] W fun e c=>e=.returned (wv S.hd)/\Below W.heap.size W c:=by
 obtain⟨c0,c1,c2⟩:=r.head;obtain⟨j,l,m⟩:=r.lens
 have a:W.cell? ⟨b,0,none⟩=some (.slice (some ⟨h.wb,h.wo,none⟩) S.ws.length h.wc):=by rw[qe r.box];rfl
 obtain⟨z,A,wc,u,y,s,t⟩:=h;simp only at c0 c1 c2 j l m a
 generalize S.hd=x at *
 obtain⟨p,q,o⟩:=x;simp only at c0 c1 c2;unfold wv;simp only
 generalize S.ws.length=n at *
 have f:=qp c0;have g:=qp c1;have i:=qp c2;have d:=qp a;clear r c0 c1 c2 a
 have k:(0:Int)<(n:Int):=by omega
 go_enter Tryz.func179,Tryz.ntmps179;go_wp2_with fail;refine bodyPost_ret (v:=.agg #[.int .i64 p,.string q,.int .i64 o]) (by simp[results,Tryz.results179,go_sem, *]) rfl ?_;exact⟨rfl,qb _ _⟩
theorem RD.next{w W:World}{f:Nat}{h:RHd}{S:St}{qs:List (Ru × Option Addr × Nat)}(r:RD w W f h S qs)(F:Ends S.ws.tail):
  RD w (W.setCell ⟨f,0,none⟩ (.slice (some ⟨h.wb,h.wo+3,none⟩) (S.ws.length - 1) (h.wc - 1))) f ⟨h.wb,h.wo+3,h.wc - 1,h.ta,h.tc,h.ra,h.rc⟩ S.next qs:=by
 have J:=vj r.ok
 have G:S.next.ws.length=S.ws.length - 1:=by omega
 obtain⟨K,L,M⟩:=r.lens
 have d:∀{E k n:Nat} {v:Value} {cs:List Value},W.ownsRow w.heap.size E k v n cs->E≠192->(W.setCell ⟨f,0,none⟩ (.slice (some ⟨h.wb,h.wo+3,none⟩) (S.ws.length - 1) (h.wc - 1))).ownsRow w.heap.size E k v n cs:=by
  intro E k n v cs z B;refine qh z (fun i m=>Below.heap_setCell _ _ _ _ (fun e=>?_));simp only at e;subst e
  rcases z.2 with ⟨rfl,-⟩ | ⟨g,c,cur,rfl,-,hh,-⟩
  ·cases m
  ·simp only[Value.ownBlock,Option.some.injEq]at m;subst m;rw[r.box]at hh;simp only[Option.some.injEq,Obj.cells.injEq]at hh;exact B hh.2.1.symm
 refine⟨?_,?_,d r.tok (by decide),d r.rul (by decide),r.map,fun q H=>d (r.row q H) (by decide),r.bel.setCell (p:=⟨f,0,none⟩) r.new _,r.new,r.ok.next F⟩
 ·rw[setCell_eq_setRow W f 0 _ 192 (0,0) _ r.box]
  have e:(rdC h S).setIfInBounds 0 (.slice (some ⟨h.wb,h.wo+3,none⟩) (S.ws.length - 1) (h.wc - 1))=rdC ⟨h.wb,h.wo+3,h.wc - 1,h.ta,h.tc,h.ra,h.rc⟩ S.next:=by
   unfold rdC;rw[G];rfl
  rw[e];exact setRow_heap _ _ _ _ 192 _ r.box
 ·obtain⟨x,s⟩:=r.ok.ends.head;have y:=r.wds.len
  have l:S.next.ws=x:=by show S.ws.tail=x;rw[s];rfl
  have I:S.ws.length=x.length+1:=by rw[s];rfl
  refine⟨?_,?_,?_,?_⟩
  ·rw[l];unfold wdC;rw[qah _ (fun _=>rfl)]
  ·simp only;omega
  ·simp only;unfold maxLen;omega
  ·refine .inr ⟨h.wb,h.wo+3,rfl,fun j u A=>?_⟩;obtain⟨b,o,C,D⟩:=r.wds.at (by omega)
   cases C
   rw[show h.wo+3+j=h.wo+(3+j) by omega];refine D (3+j) u ?_;rw[l]at A
   have e:wdC S.ws=[.int .i64 S.hd.k,.string S.hd.t,.int .i64 S.hd.a]++wdC x:=by
    conv=>lhs;rw[s]
    rfl
   rw[e,List.getElem?_append_right (by simp)]
   simpa using A
theorem qb4(w W:World)(a:Nat)(h:RHd)(S:St)(qs:List (Ru × Option Addr × Nat))(r:RD w W a h S qs)(b:Ends S.ws.tail):
  Calls Tryz.prog 192 #[.pointer (some ⟨a,0,none⟩)] W fun e c=>e=.returned (.tuple #[])/\c=W.setCell ⟨a,0,none⟩ (.slice (some ⟨h.wb,h.wo+3,none⟩) (S.ws.length - 1) (h.wc - 1)):=by
 obtain⟨f,i,k⟩:=r.lens
 have q:2<=S.ws.length:=by
  have m:=vj r.ok;have o:=b.pos;have p:S.next.ws.length=S.ws.tail.length:=rfl;omega
 have d:W.cell? ⟨a,0,none⟩=some (.slice (some ⟨h.wb,h.wo,none⟩) S.ws.length h.wc):=by rw[qe r.box];rfl
 have l:=qj r.box 0;obtain⟨y,z,wc,v,x,t,u⟩:=h;simp only at f i k d;simp only
 generalize S.ws.length=n at *
 clear r b
 have g:(1:Int)<=(n:Int):=by omega
 have j:(n:Int)<=(wc:Int):=by omega
 have s:wc≠1:=by omega
 go_enter Tryz.func192,Tryz.ntmps192;go_wp2_with fail;go_end0;exact⟨rfl,rfl⟩
def One (rb:Nat) (k:Nat):Prop:=k=rb
def Went (w W:World) (rb:Nat) (S:St) (qs:List (Ru × Option Addr × Nat)) (W':World):Prop:=(∃h,RD w W' rb h S qs/\∀h0 S0,RD w W rb h0 S0 qs->h.ta=h0.ta/\h.ra=h0.ra)/\Kept (One rb) W W'
theorem Went.rd{w W a:World}{b:Nat}{S:St}{qs:List (Ru × Option Addr × Nat)}(r:Went w W b S qs a):∃h,RD w a b h S qs:=by
 obtain⟨⟨h,r,-⟩,-⟩:=r;exact⟨h,r⟩
theorem qc0{w W:World}{g:Nat}{h b:RHd}{S i:St}{qs c:List (Ru × Option Addr × Nat)}(r:RD w W g h S qs)(j:RD w W g b i c):h.ta=b.ta/\h.ra=b.ra:=by
 have e:=r.box.symm.trans j.box;simp only[Option.some.injEq,Obj.cells.injEq]at e;have d:=congrArg (fun a:Array Value=>a[1]?) e.1;have f:=congrArg (fun a:Array Value=>a[6]?) e.1;simp[rdC]at d f;exact⟨d.1,f.1⟩
theorem Went.stay{w W a:World}{c:Nat}{h:RHd}{S:St}{qs:List (Ru × Option Addr × Nat)}(r:RD w W c h S qs)(b:Below W.heap.size W a):Went w W c S qs a:=⟨⟨h,r.step b,fun _ _ d=>qc0 r d⟩,zm b⟩
def Loc (W:World) (b T:Nat):Prop:=∃c,W.heap[b]?=some (.cells c T (0,0))
theorem Loc.set{W:World}{b T:Nat}(h:Loc W b T)(b' j:Nat)(u:Value):Loc (W.setCell ⟨b',j,none⟩ u) b T:=by
 obtain⟨c,a⟩:=h
 by_cases e:b=b'
 ·subst e;exact⟨_,by rw[setCell_eq_setRow W b j _ T (0,0) _ a];exact setRow_heap _ _ _ _ T _ a⟩
 ·exact⟨c,by rw[Below.heap_setCell _ _ _ _ e];exact a⟩
theorem RD.far{w W:World}{s b j T:Nat}{h:RHd}{S:St}{qs:List (Ru × Option Addr × Nat)}{u:Value}(r:RD w W s h S qs)(f:Loc W b T)(d:T≠192/\T≠205/\T≠42/\T≠9)(y:w.heap.size<=b):RD w (W.setCell ⟨b,j,none⟩ u) s h S qs:=by
 obtain⟨c,f⟩:=f
 have a:∀{E k n:Nat} {v:Value} {cs:List Value},W.ownsRow w.heap.size E k v n cs->E≠T->(W.setCell ⟨b,j,none⟩ u).ownsRow w.heap.size E k v n cs:=by
  intro E k n v cs o t;refine qh o (fun i m=>Below.heap_setCell _ _ _ _ (fun e=>?_));simp only at e;subst e
  rcases o.2 with ⟨rfl,-⟩ | ⟨g,c,cur,rfl,-,hh,-⟩
  ·cases m
  ·simp only[Value.ownBlock,Option.some.injEq]at m;subst m;rw[f]at hh;simp only[Option.some.injEq,Obj.cells.injEq]at hh;exact t hh.2.1.symm
 refine⟨?_,r.wds,a r.tok (Ne.symm d.2.1),a r.rul (Ne.symm d.2.2.1),r.map,fun q x=>a (r.row q x) (Ne.symm d.2.2.2),r.bel.setCell (p:=⟨b,j,none⟩) y _,r.new,r.ok⟩;rw[Below.heap_setCell _ _ _ _ (fun e=>?_)]
 ·exact r.box
 ·have l:=r.box;rw[e,f]at l;simp only[Option.some.injEq,Obj.cells.injEq]at l;exact d.1 l.2.1
theorem Went.far{w W a:World}{d b j T:Nat}{S:St}{qs:List (Ru × Option Addr × Nat)}{u:Value}(r:Went w W d S qs a)(g:Loc a b T)(f:T≠192/\T≠205/\T≠42/\T≠9)(l:w.heap.size<=W.heap.size)(i:W.heap.size<=b):Went w W d S qs (a.setCell ⟨b,j,none⟩ u):=by
 obtain⟨⟨h,r,e⟩,k⟩:=r;exact⟨⟨h,r.far g f (by omega),e⟩,k.setCell _ _ (fun c=>by simp only at c;omega)⟩
theorem jz(x:Wd)(W:World):Calls Tryz.prog 198 #[wv x] W fun e c=>e=.returned (fv (zt x))/\Below W.heap.size W c:=by
 obtain⟨f,g,d⟩:=x;unfold wv fv zt;simp only
 have b:Hid (∀o a:Obj,Below W.heap.size W ((W.alloc o).alloc a)):=fun o a=>qd (qb _ _) (qb _ _)
 go_enter Tryz.func198,Tryz.ntmps198;go_wp2_with fail;refine bodyPost_ret (v:=.agg #[.int .i64 1,.int .i64 d]) (by simp[results,Tryz.results198,go_sem, *]) rfl ?_;exact⟨rfl,b.out _ _⟩
theorem qfa(x:Wd)(W:World):Calls Tryz.prog 213 #[wv x] W fun e c=>e=.returned (fv (vt x))/\Below W.heap.size W c:=by
 obtain⟨f,g,d⟩:=x;unfold wv fv vt;simp only
 have b:Hid (∀o a:Obj,Below W.heap.size W ((W.alloc o).alloc a)):=fun o a=>qd (qb _ _) (qb _ _)
 go_enter Tryz.func213,Tryz.ntmps213;go_wp2_with fail;refine bodyPost_ret (v:=.agg #[.int .i64 7,.int .i64 d]) (by simp[results,Tryz.results213,go_sem, *]) rfl ?_;exact⟨rfl,b.out _ _⟩
theorem qgk(k a:Int)(t:ByteArray)(W:World):(Instr.field 201 (.agg #[.int .i64 k,.string t,.int .i64 a]) 0).run Tryz.prog W=.ok (.int .i64 k) W:=by kernel_rfl
theorem qj2(k a:Int)(t:ByteArray)(W:World):(Instr.field 201 (.agg #[.int .i64 k,.string t,.int .i64 a]) 1).run Tryz.prog W=.ok (.string t) W:=by kernel_rfl
def qbn (t:ByteArray) (S:St):St:=if S.hd.t=t then S.next else S
theorem qaj(t:ByteArray)(D:t≠⟨#[]⟩)(w W:World)(g:Nat)(h:RHd)(S:St)(qs:List (Ru × Option Addr × Nat))(r:RD w W g h S qs)(b:Bool)(v:b=true↔S.hd.t=t):
  Calls Tryz.prog 177 #[.pointer (some ⟨g,0,none⟩),.string t] W fun e z=>e=.returned (.bool b)/\Went w W g (qbn t S) qs z:=by
 have H1:=hid (k8 w W g h S qs r);have j:=hid r;unfold wv at H1;have i:=hid v;clear r v
 generalize y:S.hd=x at *
 obtain⟨q,l,p⟩:=x;simp only at H1 i;have o:=hid y;clear y
 cases b
 ·have f:l≠t:=fun e=>by have:=i.out.2 e;cases this
  have C:=xu f
  have m:Hid (qbn t S=S):=by
   show _=_;unfold qbn;rw[if_neg (by rw[o.out];exact f)]
  clear f i;have B:=qj2 q p l;go_enter Tryz.func177,Tryz.ntmps177;go_wp2_with fail;refine H1.out.mono ?_;rintro e u ⟨rfl,k⟩;have a:=hid k;clear k;go_wp2_with fail;go_ret;refine⟨rfl,?_⟩;rw[m.out];exact Went.stay j.out a.out
 ·have c:=i.out.1 rfl;have C:=xv c;have s:=hid ((j.out.ok.ends.tail_of_text (by rw[show qae S.ws=⟨q,l,p⟩ from o.out];simp only;rw[c];exact D)).2)
  have m:Hid (qbn t S=S.next):=by
   show _=_;unfold qbn;rw[if_pos (by rw[o.out];exact c)]
  clear c i;have B:=qj2 q p l;go_enter Tryz.func177,Tryz.ntmps177;go_wp2_with fail;refine H1.out.mono ?_;rintro e u ⟨rfl,k⟩;have a:=hid k;clear k;go_wp2_with fail;refine(qb4 w u g h S qs (j.out.step a.out) s.out).mono ?_;rintro e A ⟨rfl,d⟩
  have n:Hid (Went w W g S.next qs A):=by
   refine⟨⟨⟨h.wb,h.wo+3,h.wc - 1,h.ta,h.tc,h.ra,h.rc⟩,by rw[d];exact(j.out.step a.out).next s.out,fun _ _ E=>by have e:=qc0 j.out E;exact e⟩,?_⟩
   rw[d];exact(zm a.out).setCell ⟨g,0,none⟩ _ (fun _=>rfl)
  clear d;go_wp2_with fail;go_ret;refine⟨rfl,?_⟩;rw[m.out];exact n.out
def qbo (k:Int) (S:St):St:=if S.hd.k=k then S.next else S
def takeW (k:Int) (S:St):Wd:=if S.hd.k=k then S.hd else ⟨0,⟨#[]⟩,0⟩
def qbp (k:Int) (S:St):Flt:=if S.hd.k=k then (0,0) else zt S.hd
theorem qak(k:Int)(T:k≠5)(w W:World)(g:Nat)(h:RHd)(S:St)(qs:List (Ru × Option Addr × Nat))(r:RD w W g h S qs):
  Calls Tryz.prog 199 #[.pointer (some ⟨g,0,none⟩),.int .i64 k] W fun e N=>e=.returned (.tuple #[wv (takeW k S),fv (qbp k S)])/\Went w W g (qbo k S) qs N:=by
 have J:Hid (∀V:World,Below W.heap.size W V->RD w V g h S qs):=fun V R=>r.step R
 have H1:Hid (∀V:World,Below W.heap.size W V->Calls Tryz.prog 179 #[.pointer (some ⟨g,0,none⟩)] V fun e N=>e=.returned (wv S.hd)/\Below V.heap.size V N):=fun V R=>k8 w V g h S qs (r.step R)
 have I:Hid (Below W.heap.size W ((W.alloc (.cells #[.int .i64 0,.string ⟨#[]⟩,.int .i64 0] 201)).alloc (.cells #[.int .i64 0,.int .i64 0] 177))):=qd (qb _ _) (qb _ _);have n:((W.alloc (.cells #[.int .i64 0,.string ⟨#[]⟩,.int .i64 0] 201)).alloc (.cells #[.int .i64 0,.int .i64 0] 177)).heap[W.heap.size]?=some (.cells #[.int .i64 0,.string ⟨#[]⟩,.int .i64 0] 201 (0,0)):=qf (qb _ _) (heap_alloc_new _ _)
 have o:((W.alloc (.cells #[.int .i64 0,.string ⟨#[]⟩,.int .i64 0] 201)).alloc (.cells #[.int .i64 0,.int .i64 0] 177)).heap[W.heap.size+1]?=some (.cells #[.int .i64 0,.int .i64 0] 177 (0,0)):=by
  have:=heap_alloc_new (W.alloc (.cells #[.int .i64 0,.string ⟨#[]⟩,.int .i64 0] 201)) (.cells #[.int .i64 0,.int .i64 0] 177)
  rwa [qz]at this
 have G:=(Array.getElem?_eq_some_iff.1 r.box).1;have Z:=hid r.ok;have c:=hid r.bel.size;clear r
 generalize X:S.hd=x at *
 obtain⟨i,s,l⟩:=x;unfold wv at H1;simp only at H1;have M:=hid X;clear X;go_enter Tryz.func199,Tryz.ntmps199
 go_upto_region 1 with fail
 generalize (W.alloc (.cells #[.int .i64 0,.string ⟨#[]⟩,.int .i64 0] 201)).alloc (.cells #[.int .i64 0,.int .i64 0] 177)=W1 at I n o ⊢
 obtain⟨d,p⟩:∃d,d=W.heap.size:=⟨_,rfl⟩
 rw[<-p]at n o ⊢
 have E:Hid (d=W.heap.size/\g<d):=⟨p,by rw[p];exact G⟩
 have j:=hid2 n o;clear n o G p;go_wp2_with fail;refine(H1.out _ I.out).mono ?_;rintro e t ⟨rfl,z⟩;have f:=hid2 z (qd I.out z);clear z
 obtain⟨Y,a0⟩:∃Y,Y=t.heap.size:=⟨_,rfl⟩
 by_cases b:i=k
 ·have hq:(i != k)=false:=by simp[b]
  have U:=hid ((Z.out.ends.tail_of_kind (by rw[show qae S.ws=⟨i,s,l⟩ from M.out];simp only;rw[b];exact T)).2)
  have L:Hid (qbo k S=S.next/\takeW k S=⟨i,s,l⟩/\qbp k S=(0,0)):=by
   unfold qbo takeW qbp;rw[M.out];simp only;rw[if_pos b,if_pos b,if_pos b];exact⟨rfl,rfl,rfl⟩
  have F:Hid (RD w (t.alloc (.cells #[.int .i64 i,.string s,.int .i64 l] 201)) g h S qs):=J.out _ (qd f.out.2 (qb _ _))
  have K:Hid (d+2<=t.heap.size):=by
   have h1:=f.out.1.size;have h2:=(Array.getElem?_eq_some_iff.1 j.out.2).1;show _<=_;omega
  clear b;go_wp2_with fail;refine(qb4 w _ g h S qs F.out U.out).mono ?_;rintro e a ⟨rfl,m⟩
  have q:∀k,k≠g->a.heap[k]?=(t.alloc (.cells #[.int .i64 i,.string s,.int .i64 l] 201)).heap[k]?:=fun k T=>by rw[m];exact Below.heap_setCell _ _ _ _ T
  have t0:a.heap[t.heap.size]?=some (.cells #[.int .i64 i,.string s,.int .i64 l] 201 (0,0)):=by
   rw[q _ (by have:=E.out.2;have:=K.out;omega)]
   exact heap_alloc_new _ _
  have t1:a.heap[d]?=some (.cells #[.int .i64 0,.string ⟨#[]⟩,.int .i64 0] 201 (0,0)):=by
   rw[q _ (by have:=E.out.2;omega)]
   exact qf (qd f.out.1 (qb _ _)) j.out.1
  have t2:a.heap[d+1]?=some (.cells #[.int .i64 0,.int .i64 0] 177 (0,0)):=by
   rw[q _ (by have:=E.out.2;omega)]
   exact qf (qd f.out.1 (qb _ _)) j.out.2
  have y:Hid (Went w W g S.next qs a):=by
   refine⟨⟨⟨h.wb,h.wo+3,h.wc - 1,h.ta,h.tc,h.ra,h.rc⟩,by rw[m];exact F.out.next U.out,fun _ _ r0=>by have e:=qc0 (J.out W (Below.refl _ _)) r0;exact e⟩,?_⟩
   rw[m];exact(zm (qd f.out.2 (qb _ _))).setCell ⟨g,0,none⟩ _ (fun _=>rfl)
  have p0:a.cell? ⟨t.heap.size,0,none⟩=some (.int .i64 i):=by rw[qe t0];rfl
  have p1:a.cell? ⟨t.heap.size,1,none⟩=some (.string s):=by rw[qe t0];rfl
  have p2:a.cell? ⟨t.heap.size,2,none⟩=some (.int .i64 l):=by rw[qe t0];rfl
  have q0:a.cell? ⟨d,0,none⟩=some (.int .i64 0):=by rw[qe t1];rfl
  have q1:a.cell? ⟨d,1,none⟩=some (.string ⟨#[]⟩):=by rw[qe t1];rfl
  have q2:a.cell? ⟨d,2,none⟩=some (.int .i64 0):=by rw[qe t1];rfl
  have q3:a.cell? ⟨d+1,0,none⟩=some (.int .i64 0):=by rw[qe t2];rfl
  have q4:a.cell? ⟨d+1,1,none⟩=some (.int .i64 0):=by rw[qe t2];rfl
  have z0:=qj t1 0;have z1:=qj t1 1;have z2:=qj t1 2;have z3:=qj t2 0;have z4:=qj t2 1
  have D:Loc a d 201/\Loc a (d+1) 177:=⟨⟨_,t1⟩,⟨_,t2⟩⟩
  clear q t0 t1 t2 m;have C:=hid D;clear D;go_wp2_with fail;refine bodyPost_ret (v:=.tuple #[.agg #[.int .i64 i,.string s,.int .i64 l],.agg #[.int .i64 0,.int .i64 0]]) (by simp[results,Tryz.results199,go_sem, *]) rfl ?_;obtain⟨O,P,Q⟩:=L.out;rw[O,P,Q];have A:=Nat.le_of_eq E.out.1.symm;have B:=C.out.1;have H:=C.out.2;refine⟨rfl,?_⟩;exact((((y.out.far B (by decide) c.out A).far (B.set _ _ _) (by decide) c.out A).far ((B.set _ _ _).set _ _ _) (by decide) c.out A).far (((H.set _ _ _).set _ _ _).set _ _ _) (by decide) c.out (by omega)).far ((((H.set _ _ _).set _ _ _).set _ _ _).set _ _ _) (by decide) c.out (by omega)
 ·have hq:(i != k)=true:=by simp[b]
  have L:Hid (qbo k S=S/\takeW k S=⟨0,⟨#[]⟩,0⟩/\qbp k S=zt ⟨i,s,l⟩):=by
   unfold qbo takeW qbp;rw[M.out];simp only;rw[if_neg b,if_neg b,if_neg b];exact⟨rfl,rfl,rfl⟩
  clear b;go_wp2_with fail;refine(jz ⟨i,s,l⟩ _).mono ?_;rintro e a ⟨rfl,z⟩;unfold fv zt;simp only;have u:=hid2 (qd f.out.1 (qd (qb _ _) z)) (qd f.out.2 (qd (qb _ _) z));clear z;have t1:=qf u.out.1 j.out.1;have t2:=qf u.out.1 j.out.2
  have q0:a.cell? ⟨d,0,none⟩=some (.int .i64 0):=by rw[qe t1];rfl
  have q1:a.cell? ⟨d,1,none⟩=some (.string ⟨#[]⟩):=by rw[qe t1];rfl
  have q2:a.cell? ⟨d,2,none⟩=some (.int .i64 0):=by rw[qe t1];rfl
  have q3:a.cell? ⟨d+1,0,none⟩=some (.int .i64 0):=by rw[qe t2];rfl
  have q4:a.cell? ⟨d+1,1,none⟩=some (.int .i64 0):=by rw[qe t2];rfl
  have z0:=qj t1 0;have z1:=qj t1 1;have z2:=qj t1 2;have z3:=qj t2 0;have z4:=qj t2 1
  have C:Hid (Loc a d 201/\Loc a (d+1) 177):=⟨⟨_,t1⟩,⟨_,t2⟩⟩
  clear t1 t2;go_wp2_with fail;refine bodyPost_ret (v:=.tuple #[.agg #[.int .i64 0,.string ⟨#[]⟩,.int .i64 0],.agg #[.int .i64 1,.int .i64 l]]) (by simp[results,Tryz.results199,go_sem, *]) rfl ?_;obtain⟨O,P,Q⟩:=L.out;rw[O,P,Q];have A:=Nat.le_of_eq E.out.1.symm;have B:=C.out.1;have H:=C.out.2;have y:=Went.stay (J.out W (Below.refl _ _)) u.out.2;refine⟨rfl,?_⟩;exact((((y.far B (by decide) c.out A).far (B.set _ _ _) (by decide) c.out A).far ((B.set _ _ _).set _ _ _) (by decide) c.out A).far (((H.set _ _ _).set _ _ _).set _ _ _) (by decide) c.out (by omega)).far ((((H.set _ _ _).set _ _ _).set _ _ _).set _ _ _) (by decide) c.out (by omega)
theorem qav{α:Type}(f:α->List Value)(a:∀x,(f x).length=4):∀(l:List α) (i:Nat) (x:α) (j:Nat),l[i]?=some x->j<4->(l.flatMap f)[i * 4+j]?=(f x)[j]?
 | [],i,x,j,h,_=>by cases h
 | y :: r,0,x,j,h,hj=>by
  cases h
  rw[List.flatMap_cons,List.getElem?_append_left (by rw[a];omega)]
  rw[Nat.zero_mul,Nat.zero_add]
 | y :: r,i+1,x,j,h,hj=>by
  rw[List.flatMap_cons,List.getElem?_append_right (by rw[a];omega),a]
  rw[show(i+1) * 4+j - 4=i * 4+j by omega];exact qav f a r i x j h hj
theorem qct{α:Type}(f:α->List Value)(a:∀x,(f x).length=4):∀(l:List α),(l.flatMap f).length=l.length * 4
 | []=>rfl
 | y :: r=>by rw[List.flatMap_cons,List.length_append,a,qct f a r,List.length_cons];omega
theorem qj3{α:Type}(f:α->List Value)(a:∀x,(f x).length=4)(y:α)(j:Nat)(u:Value):∀(l:List α) (i:Nat) (x:α),l[i]?=some x->j<4->(f x).set j u=f y->(l.flatMap f).set (i * 4+j) u=(l.set i y).flatMap f
 | [],i,x,h,_,_=>by cases h
 | z :: r,0,x,h,hj,he=>by
  cases h
  rw[List.set_cons_zero,List.flatMap_cons,List.flatMap_cons,Nat.zero_mul,Nat.zero_add,List.set_append_left _ _ (by rw[a];exact hj),he]
 | z :: r,i+1,x,h,hj,he=>by
  rw[List.set_cons_succ,List.flatMap_cons,List.flatMap_cons,List.set_append_right _ _ (by rw[a];omega),a,show(i+1) * 4+j - 4=i * 4+j by omega]
  rw[qj3 f a y j u r i x h hj he]
theorem qj4{s:ByteArray}:∀{ts:List Tk} {k:Nat} {t:Tk},(∀(i:Nat) (t:Tk),i<k->ts[i]?=some t->t.n≠s)->ts[k]?=some t->t.n=s->vx ts s=some k
 | [],k,t,_,h,_=>by cases h
 | u :: r,0,t,_,h,he=>by
  cases h
  unfold vx;rw[if_pos he]
 | u :: r,k+1,t,hb,h,he=>by
  unfold vx;rw[if_neg (hb 0 u (by omega) rfl),qj4 (k:=k) (t:=t) (fun i t b a=>hb (i+1) t (by omega) (by simpa using a)) (by simpa using h) he];rfl
theorem qgl{s:ByteArray}:∀{ts:List Tk},(∀(i:Nat) (t:Tk),ts[i]?=some t->t.n≠s)->vx ts s=none
 | [],_=>rfl
 | u :: r,hb=>by
  unfold vx;rw[if_neg (hb 0 u rfl),qgl (ts:=r) (fun i t a=>hb (i+1) t (by simpa using a))];rfl
def idxI (o:Option Nat):Int:=match o with | some i=>i | none=>-1
theorem qtq{ts:List Tk}{a:List Bool}(f:a.length=ts.length){i:Nat}{t:Tk}(c:ts[i]?=some t):∃b,a[i]?=some b/\(ts.zip a)[i]?=some (t,b):=by
 have d:=(List.getElem?_eq_some_iff.1 c).1;refine⟨a[i]'(by omega),List.getElem?_eq_getElem _,?_⟩;rw[List.getElem?_zip_eq_some];exact⟨c,List.getElem?_eq_getElem _⟩
theorem RD.tokAt{w W:World}{y:Nat}{h:RHd}{S:St}{qs:List (Ru × Option Addr × Nat)}(r:RD w W y h S qs){i:Nat}{t:Tk}(q:S.ts[i]?=some t):
  ∃d b,h.ta=some ⟨d,0,none⟩/\S.ls[i]?=some b/\W.cell? ⟨d,i * 4,none⟩=some (.string t.n)/\W.cell? ⟨d,i * 4+1,none⟩=some (.int .i64 t.l)/\W.cell? ⟨d,i * 4+2,none⟩=some (.int .i64 t.a)/\W.cell? ⟨d,i * 4+3,none⟩=some (.bool b)/\∀j,W.frozen? ⟨d,j,none⟩=false:=by
 have C:=(List.getElem?_eq_some_iff.1 q).1;obtain⟨b,p,m⟩:=qtq r.ok.nl q;obtain⟨z,c,e,A,B,k⟩:=zo r.tok
 have f:∃d,h.ta=some ⟨d,0,none⟩:=by
  cases e
  rcases k with ⟨-,k,-⟩ | ⟨d,k⟩
  ·omega
  ·exact⟨d,k⟩
 obtain⟨d,f⟩:=f;have o:=r.tok;rw[f]at o
 have cell:∀j u,(rtC (S.ts.zip S.ls))[j]?=some u->W.cell? ⟨d,j,none⟩=some u:=fun j u v=>by
  have:=World.ownsRow.cells o (g:=d) rfl j u v
  rwa [Addr.add_lit,Nat.zero_add]at this
 have s:∀j,W.frozen? ⟨d,j,none⟩=false:=by
  rcases o.2 with ⟨hv,-⟩ | ⟨g',cap',cur,hv,p,hh,-⟩
  ·cases hv
  ·cases hv
   exact fun j=>qj hh j
 refine⟨d,b,f,p,cell _ _ ?_,cell _ _ ?_,cell _ _ ?_,cell _ _ ?_,s⟩
 ·have:=qav (fun x:Tk × Bool=>[.string x.1.n,.int .i64 x.1.l,.int .i64 x.1.a,.bool x.2]) (fun _=>rfl) (S.ts.zip S.ls) i (t,b) 0 m (by omega);rw[Nat.add_zero]at this;exact this
 ·exact qav _ (fun _=>rfl) (S.ts.zip S.ls) i (t,b) 1 m (by omega)
 ·exact qav _ (fun _=>rfl) (S.ts.zip S.ls) i (t,b) 2 m (by omega)
 ·exact qav _ (fun _=>rfl) (S.ts.zip S.ls) i (t,b) 3 m (by omega)
theorem RD.tlen{w W:World}{b:Nat}{h:RHd}{S:St}{qs:List (Ru × Option Addr × Nat)}(r:RD w W b h S qs):S.ts.length<=h.tc/\h.tc<=9223372036854775807:=by
 obtain⟨d,c,e,f,a,g⟩:=zo r.tok
 cases e
 unfold maxLen at a;omega
theorem qnl(t:Tk)(b:Bool)(d:Nat)(s:ByteArray)(w:World)(c:w.cell? ⟨d,1,none⟩=some (.string s)):
  Calls Tryz.prog 225 #[.agg #[.string t.n,.int .i64 t.l,.int .i64 t.a,.bool b],.pointer (some ⟨d,0,none⟩)] w fun e f=>e=.returned (.bool (t.n.toList == s.toList))/\Below w.heap.size w f:=by
 have c:=qp c;go_enter Tryz.func225,Tryz.ntmps225;go_wp2;go_ret;exact⟨rfl,(Below.refl _ _).alloc (Nat.le_refl _) _⟩
theorem qhi(w W:World)(D:Nat)(h:RHd)(S:St)(qs:List (Ru × Option Addr × Nat))(r:RD w W D h S qs)(j:Nat)(s:ByteArray)(B:W.cell? ⟨j,1,none⟩=some (.string s)):
  Calls Tryz.prog 224 #[.slice h.ta S.ts.length h.tc,.func (.func 225) #[] #[.pointer (some ⟨j,0,none⟩)]] W fun e H=>e=.returned (.int .i64 (idxI (vx S.ts s)))/\Below W.heap.size W H:=by
 have x:Hid (∀V:World,Below W.heap.size W V->RD w V D h S qs/\V.cell? ⟨j,1,none⟩=some (.string s)):=fun V A=>⟨r.step A,qt A B⟩
 obtain⟨m,p⟩:=r.tlen;have F:=r.ok.nt;obtain⟨R,T,wc,O,Q,M,N⟩:=h;simp only at m p;simp only
 generalize z:S.ts.length=n at *
 have v:=hid z;clear r B z;go_enter Tryz.func224,Tryz.ntmps224;go_wp2
 go_loopg [8] n (fun kx s8 wr=>∃k:Nat,s8=.int .i64 k/\k<=n/\n - k<=kx/\Hid (Below W.heap.size W wr/\∀i t,i<k->S.ts[i]?=some t->t.n≠s))
 case atStart=>exact⟨0,rfl,Nat.zero_le _,by omega,(⟨Below.refl _ _,fun i t C=>absurd C (Nat.not_lt_zero _)⟩:Below W.heap.size W W/\∀i t,i<0->S.ts[i]?=some t->t.n≠s)⟩
 case round =>
  obtain⟨k,rfl,L,K,J⟩:=hrel
  by_cases o:k<n
  ·obtain⟨t,c⟩:∃t,S.ts[k]?=some t:=⟨S.ts[k]'(by rw[v.out];exact o),List.getElem?_eq_getElem _⟩
   obtain⟨P,E,g,-,c0,c1,c2,I,-⟩:=(x.out wr J.out.1).1.tokAt c;simp only at g;subst g;have y:=hid c;have a:=hid (qnl t E j s wr (x.out wr J.out.1).2);clear c
   by_cases b:t.n=s
   ·have f:=xv b;rw[f]at a
    have d:Hid (idxI (vx S.ts s)=(k:Int)):=by
     show _=_;rw[qj4 J.out.2 y.out b];rfl
    generalize t.n=G at c0 a;clear f b;go_wp2_with(go_at_call 225;refine a.out.mono ?_;rintro e w1 ⟨rfl,l⟩)
    go_ret;exact⟨by rw[d.out];rfl,qd J.out.1 l⟩
   ·have f:=xu b;rw[f]at a
    have d:Hid (∀i t,i<k+1->S.ts[i]?=some t->t.n≠s):=fun i u C q=>by
     rcases Nat.lt_or_ge i k with h | h
     ·exact J.out.2 i u h q
     ·have:i=k:=by omega
      subst this;rw[y.out]at q
      cases q
      exact b
    generalize t.n=G at c0 a;clear f b;go_wp2_with(go_at_call 225;refine a.out.mono ?_;rintro e w1 ⟨rfl,l⟩)
    go_roundg (n - (k+1))
    case measure=>omega
    case rel=>exact⟨k+1,by simp,by omega,Nat.le_refl _,(⟨qd J.out.1 l,d.out⟩:Below W.heap.size W w1/\∀i t,i<k+1->S.ts[i]?=some t->t.n≠s)⟩
  ·have d:Hid (idxI (vx S.ts s)=-1):=by
    show _=_;rw[qgl (fun i t c=>J.out.2 i t (by have:=(List.getElem?_eq_some_iff.1 c).1;rw[v.out]at this;omega) c)]
    rfl
   go_wp2;go_ret;exact⟨by rw[d.out];rfl,J.out.1⟩
structure Keep (W W':World):Prop where
 size:W.heap.size<=W'.heap.size
 loc:∀(b:Nat) (c:Array Value) (T:TypeId),W.heap[b]?=some (Obj.cells c T (0,0))->T≠192->T≠205->T≠42->T≠9->W'.heap[b]?=some (Obj.cells c T (0,0))
theorem Keep.refl(W:World):Keep W W:=⟨Nat.le_refl _,fun _ _ _ h _ _ _ _=>h⟩
theorem Keep.trans{a b c:World}(h:Keep a b)(k:Keep b c):Keep a c:=⟨Nat.le_trans h.size k.size,fun b c T j d f g i=>k.loc b c T (h.loc b c T j d f g i) d f g i⟩
theorem qy{W a:World}(h:Below W.heap.size W a):Keep W a:=⟨h.size,fun _ _ _ b _ _ _ _=>qf h b⟩
theorem Keep.set{W d:World}(k:Keep W d){b T:Nat}(q:Loc d b T)(p:T=192\/T=205\/T=42\/T=9)(j:Nat)(u:Value):Keep W (d.setCell ⟨b,j,none⟩ u):=by
 refine⟨by have:=k.size;simpa using this,fun b' c m o f g h i=>?_⟩
 have l:=k.loc b' c m o f g h i;rw[Below.heap_setCell _ _ _ _ (fun e=>?_)]
 ·exact l
 ·simp only at e;subst e;obtain⟨c2,a⟩:=q;rw[l]at a;simp only[Option.some.injEq,Obj.cells.injEq]at a;have n:=a.2.1;subst n
  rcases p with e | e | e | e
  ·exact f e
  ·exact g e
  ·exact h e
  ·exact i e
theorem Went.keep{w W g:World}{h:Nat}{S:St}{qs:List (Ru × Option Addr × Nat)}(r:Went w W h S qs g)(f:Loc W h 192):Keep W g:=by
 obtain⟨-,k⟩:=r;refine⟨k.size,fun b c T d i j l m=>?_⟩;rw[k.block b (Array.getElem?_eq_some_iff.1 d).1 (fun e=>?_)]
 ·exact d
 ·cases e
  obtain⟨c2,a⟩:=f;rw[d]at a;simp only[Option.some.injEq,Obj.cells.injEq]at a;exact i a.2.1
theorem Tryz.info205:(Tryz.prog.info? 205).map (fun i=>(i.zero,i.size,i.bytes))=some (some (.agg #[.string ⟨#[]⟩,.int .i64 0,.int .i64 0,.bool false]),4,40):=by kernel_rfl
theorem za{W:World}{a E k n:Nat}{v:Value}{cs:List Value}(h:W.ownsRow a E k v n cs){i:Nat}(b:v.ownBlock=some i):Loc W i E:=by
 rcases h.2 with ⟨rfl,-⟩ | ⟨g,c,cur,rfl,-,hh,-⟩
 ·cases b
 ·simp only[Value.ownBlock,Option.some.injEq]at b;subst b;exact⟨_,hh⟩
theorem qu{W:World}{b b' T d:Nat}(h:Loc W b T)(f:Loc W b' d)(g:T≠d):b≠b':=by
 rintro rfl;obtain⟨c,i⟩:=h;obtain⟨j,a⟩:=f;rw[i]at a;simp only[Option.some.injEq,Obj.cells.injEq]at a;exact g a.2.1
theorem qb5{W f:World}{a E k n:Nat}{v:Value}{cs:List Value}(h:W.ownsRow a E k v n cs){j:Value}{d b p q:Nat}{c:List Value}(l:W.ownsRow b d p j q c)(m:E≠d)(o:W.grownBy f j.ownBlock):f.ownsRow a E k v n cs :=
 qh h (fun i g=>o.block i (World.ownsRow.lt h i g).2 (fun e=>qu (za h g) (za l e.symm) m rfl))
theorem RD.addTok{w W:World}{o:Nat}{h:RHd}{S:St}{qs:List (Ru × Option Addr × Nat)}(r:RD w W o h S qs)(f:ByteArray)(Y:S.ts.length<40):
  ∃g m c l,(Builtin.append_ #[190,190] 190 #[.slice h.ta S.ts.length h.tc,.slice (some ⟨W.heap.size,0,none⟩) 1 1]).run Tryz.prog (W.alloc (.cells #[.string f,.int .i64 0,.int .i64 0,.bool false] 205))=.ok (.slice (some ⟨g,0,none⟩) m c) l/\m=S.ts.length+1/\l.heap[o]?=some (.cells (rdC h S) 192 (0,0)) /\
   RD w (l.setCell ⟨o,1,none⟩ (.slice (some ⟨g,0,none⟩) m c)) o ⟨h.wb,h.wo,h.wc,some ⟨g,0,none⟩,c,h.ra,h.rc⟩ ⟨S.ws,S.ts++[⟨f,0,0⟩],S.ls++[false],S.lv,S.st,S.ed,S.ex,S.rs⟩ qs/\Keep W (l.setCell ⟨o,1,none⟩ (.slice (some ⟨g,0,none⟩) m c)):=by
 obtain⟨Q,B,D,F,G⟩:=info_parts Tryz.info205;have x:=qb W (.cells #[.string f,.int .i64 0,.int .i64 0,.bool false] 205);have d:=r.step x
 have s:∀j u,(rtC [((⟨f,0,0⟩:Tk),false)])[j]?=some u->(W.alloc (.cells #[.string f,.int .i64 0,.int .i64 0,.bool false] 205)).cell? ((⟨W.heap.size,0,none⟩:Addr).add j)=some u:=by
  intro j u z;rw[Addr.add_lit,Nat.zero_add,World.cell?_alloc_mark,<-z];exact List.getElem?_toArray (xs:=rtC [((⟨f,0,0⟩:Tk),false)]) (i:=j)
 obtain⟨v',l,N,H,t,-⟩:=run_append_own (P:=Tryz.prog) (W.alloc (.cells #[.string f,.int .i64 0,.int .i64 0,.bool false] 205)) w.heap.size 190 190 205 Q _ 4 40 Tryz.underlying190 B D F G rfl (by decide) _ S.ts.length _ d.tok ⟨W.heap.size,0,none⟩ 1 1 (rtC [((⟨f,0,0⟩:Tk),false)]) rfl s
  (fun u z=>by simp[rtC]at z;rcases z with rfl | rfl | rfl | rfl <;> rfl) (by unfold maxLen;omega) (by omega) (by have:=d.bel.size;exact this)
 obtain⟨J,c,rfl,V,X,y⟩:=zo H
 obtain⟨g,rfl⟩:∃g,J=some ⟨g,0,none⟩:=by
  rcases y with ⟨-,y,-⟩ | y
  ·omega
  ·exact y
 have a:l.heap[o]?=some (.cells (rdC h S) 192 (0,0)):=by
  rw[t.block o (Array.getElem?_eq_some_iff.1 d.box).1 (fun e=>qu ⟨_,d.box⟩ (za d.tok e.symm) (by decide) rfl)];exact d.box
 have O:(S.ts++[(⟨f,0,0⟩:Tk)]).zip (S.ls++[false])=S.ts.zip S.ls++[((⟨f,0,0⟩:Tk),false)]:=by
  rw[List.zip_append (by rw[r.ok.nl])];rfl
 have C:rtC (S.ts.zip S.ls++[((⟨f,0,0⟩:Tk),false)])=rtC (S.ts.zip S.ls)++rtC [((⟨f,0,0⟩:Tk),false)]:=by unfold rtC;rw[List.flatMap_append]
 have far:∀{E k n:Nat} {v:Value} {cs:List Value},l.ownsRow w.heap.size E k v n cs->E≠192->(l.setCell ⟨o,1,none⟩ (.slice (some ⟨g,0,none⟩) (S.ts.length+1) c)).ownsRow w.heap.size E k v n cs:=by
  intro E k n v cs I K;exact qh I (fun i B=>Below.heap_setCell _ _ _ _ (qu (za I B) ⟨_,a⟩ K))
 refine⟨g,_,c,l,N,rfl,a,⟨?_,r.wds,?_,?_,r.map,fun q M=>?_,?_,r.new,?_⟩,?_⟩
 ·rw[setCell_eq_setRow l o 1 _ 192 (0,0) _ a]
  have e:(rdC h S).setIfInBounds 1 (.slice (some ⟨g,0,none⟩) (S.ts.length+1) c)=rdC ⟨h.wb,h.wo,h.wc,some ⟨g,0,none⟩,c,h.ra,h.rc⟩ ⟨S.ws,S.ts++[⟨f,0,0⟩],S.ls++[false],S.lv,S.st,S.ed,S.ex,S.rs⟩:=by
   unfold rdC;simp
  rw[e];exact setRow_heap _ _ _ _ 192 _ a
 ·refine far ?_ (by decide);simp only[List.length_append,List.length_cons,List.length_nil];rw[O,C];exact H
 ·exact far (qb5 d.rul d.tok (by decide) t) (by decide)
 ·exact far (qb5 (d.row q M) d.tok (by decide) t) (by decide)
 ·exact(d.bel.grown t (d.bel.size) (fun k L=>(World.ownsRow.lt d.tok k L).1)).setCell (p:=⟨o,1,none⟩) r.new _
 ·refine⟨r.ok.ends,?_,?_,r.ok.lv,r.ok.nr⟩
  ·simp only[List.length_append,List.length_cons,List.length_nil];omega
  ·simp only[List.length_append,List.length_cons,List.length_nil];rw[r.ok.nl]
 ·have R:Keep W l:=by
   refine(qy x).trans ⟨t.size,fun b c2 T A Z U q3 q4=>?_⟩;rw[t.block b (Array.getElem?_eq_some_iff.1 A).1 (fun e=>qu ⟨_,A⟩ (za d.tok e.symm) U rfl)];exact A
  exact R.set ⟨_,a⟩ (.inl rfl) 1 _
end Go.Proofs.YtbdogaaooeoccaaGreatDoor
