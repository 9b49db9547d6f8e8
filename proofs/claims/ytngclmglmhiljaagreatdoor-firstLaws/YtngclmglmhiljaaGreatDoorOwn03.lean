/- Texts that the proofs of the First statements stand on, part Own03. -/
import Derived.Shelf.SlSortCmp.QuietGrown
import Derived.Lib.SliceRun
import Derived.BigQuiet
import Derived.Lib.Builder
import Derived.Lib.MakeNoZero
import Derived.Laws.IdiomCopy
import Derived.Deep.RegionWith
import Derived.Deep.RegionLaw
import Derived.Test.YtngclmglmhiljaaGreatDoorOwn02
set_option maxHeartbeats 16000000
set_option maxRecDepth 100000
namespace Go.Proofs.YtngclmglmhiljaaGreatDoor
open Go.RowKit
theorem qlz {S:Sp} {l:List Nat} {t:Nat}:FstL S l t↔∃ j y,l[j]?=some y/\(∀ z∈l.take j,Nul S z)/\FstP S y t:=by
 constructor
 ·rintro ⟨u,y,v,rfl,hu,hy⟩
  refine ⟨u.length,y,?_,?_,hy⟩
  ·rw [List.getElem?_append_right (Nat.le_refl _),Nat.sub_self];rfl
  ·have:(u++y :: v).take u.length=u:=by simp
   rw [this];exact hu
 ·rintro ⟨j,y,hj,hu,hy⟩
  refine ⟨l.take j,y,l.drop (j+1),?_,hu,hy⟩
  rw [<-vn hj,List.take_append_drop]
theorem qfj {l:List Nat} {j k y:Nat} (hj:l[j]?=some y) (h:j<k):y∈l.take k:=by
 obtain ⟨h1,h2⟩:=List.getElem?_eq_some_iff.1 hj
 rw [List.mem_take_iff_getElem]
 exact ⟨j,by omega,h2⟩
theorem qf5 {l:List Nat} {k a:Nat} (h:a∈l.take k):∃ j,j<k/\l[j]?=some a:=by
 rw [List.mem_take_iff_getElem] at h
 obtain ⟨j,hj,e⟩:=h
 exact ⟨j,by omega,by rw [<-e];exact List.getElem?_eq_getElem _⟩
theorem qiq {l:List Nat} {j k z:Nat} (hj:j<=k) (h:z∈l.take j):z∈l.take k:=by
 obtain ⟨i,h1,h2⟩:=qf5 h
 exact qfj h2 (by omega)
theorem qpd {S:Sp} {n:Nat} {WL:List (List Nat)} (hW:Ways S n WL) (hn:S.tk<n) {l:List Nat} (hl:∀ z∈l,z<n/\z≠S.tk) {k y:Nat} (hy:l[k]?=some y) (hE:∀ z∈l.take k,Nul S z) (hno:¬ Nul S y) {t:Nat} (ht:t<=S.tk) (Q:Prop) :
  (∃ a∈l.take (k+1),Got WL a t)↔FstL S l t\/((∀ z∈l,Nul S z)/\Q):=by
 rw [qlz]
 constructor
 ·rintro ⟨a,ha,hg⟩
  obtain ⟨j,hj,hja⟩:=qf5 ha
  have h1:=hl a (List.mem_of_getElem? hja)
  refine .inl ⟨j,a,hja,fun z hz=>hE z (qiq (by omega) hz),(hW.got_fst h1.1 h1.2 ht hn).1 hg⟩
 ·rintro (⟨j,a,hja,hu,hf⟩ | ⟨h1,-⟩)
  ·have h1:=hl a (List.mem_of_getElem? hja)
   refine ⟨a,qfj hja ?_,(hW.got_fst h1.1 h1.2 ht hn).2 hf⟩
   rcases Nat.lt_or_ge k j with h | h
   ·exact absurd (hu y (qfj hy h)) hno
   ·omega
  ·exact absurd (h1 y (List.mem_of_getElem? hy)) hno
theorem ql0 {S:Sp} {n:Nat} {WL:List (List Nat)} (hW:Ways S n WL) (hn:S.tk<n) {l:List Nat} (hl:∀ z∈l,z<n/\z≠S.tk) (hE:∀ z∈l,Nul S z) {t:Nat} (ht:t<=S.tk):(∃ a∈l,Got WL a t)↔FstL S l t:=by
 rw [qlz]
 constructor
 ·rintro ⟨a,ha,hg⟩
  obtain ⟨j,hja⟩:=List.getElem?_of_mem ha
  have h1:=hl a ha
  exact ⟨j,a,hja,fun z hz=>hE z (List.mem_of_mem_take hz),(hW.got_fst h1.1 h1.2 ht hn).1 hg⟩
 ·rintro ⟨j,a,hja,-,hf⟩
  have ha:=List.mem_of_getElem? hja
  have h1:=hl a ha
  exact ⟨a,ha,(hW.got_fst h1.1 h1.2 ht hn).2 hf⟩
theorem Ways.got_tok {S:Sp} {n:Nat} {W:List (List Nat)} (h:Ways S n W) {b t:Nat} (hb:b<=S.tk) (ht:t<=S.tk) (hn:S.tk<n) (hno:∀ t,¬ FstP S S.tk t) (htok:∀ x t,x<S.tk->FstP S x t->t=x):Got W b t↔t=b:=by
 rcases Nat.lt_or_ge b S.tk with h1 | h1
 ·rw [h.got_fst (by omega) (by omega) ht hn]
  exact ⟨htok b t h1,fun e=>by subst e;exact FstP.tok t h1⟩
 ·have:b=S.tk:=by omega
  subst this
  exact h.got_end ht hn hno
theorem qg9 {S:Sp} (hwf:WF S) {x t:Nat} (hx:x<=S.tk) (h:FstP S x t):x<S.tk/\t=x:=by
 have key:=h (fun x t=>x<=S.tk->x<S.tk/\t=x) (fun x hx _=>⟨hx,rfl⟩) (fun i r x y a u v h0 hr hl _ _ _ hx=>by
  obtain ⟨z,hz,h1,-⟩:=hwf.rl i r h0 hr
  rw [hz] at hl
  omega)
 exact key hx
theorem ql1 {S:Sp} (hwf:WF S) {x:Nat} (h:Nul S x):S.tk<x/\x<S.tk+1+S.nt:=h (fun x=>S.tk<x/\x<S.tk+1+S.nt) (fun i r x h0 hr hl _=>by
 obtain ⟨z,hz,h1,h2⟩:=hwf.rl i r h0 hr
 rw [hz] at hl
 omega)
structure Wd where
 k:Int
 t:ByteArray
 a:Int
def endW (a:Int):Wd:=⟨5,⟨#[]⟩,a⟩
structure WdOk (w:Wd):Prop where
 kind:1<=w.k/\w.k<=4
 name:w.k=1->isL (bt (by8 w.t) 0)=true/\1<=w.t.size
 num:w.k=2->1<=w.t.size/\w.t.size<=4/\∀ j,j<w.t.size->isD (bt (by8 w.t) j)=true
 sign:w.k=3->by8 w.t=[58]\/by8 w.t=[124]\/by8 w.t=[59]
 key:w.k=4->bt (by8 w.t) 0=37/\1<=w.t.size
 size:w.t.size<=100
def Ends (ws:List Wd):Prop:=∃ (pre:List Wd) (a:Int),ws=pre++[endW a]/\∀ w∈pre,WdOk w
theorem Ends.pos {ws:List Wd} (h:Ends ws):1<=ws.length:=by
 obtain ⟨pre,a,rfl,-⟩:=h
 rw [List.length_append]
 exact Nat.le_add_left _ _
def yv (ws:List Wd):Wd:=ws.headD (endW 0)
theorem Ends.head {ws:List Wd} (h:Ends ws):∃ r,ws=yv ws :: r:=by
 obtain ⟨pre,a,rfl,-⟩:=h
 cases pre with
 | nil=>exact ⟨[],rfl⟩
 | cons x r=>exact ⟨r++[endW a],rfl⟩
theorem Ends.cases {ws:List Wd} (h:Ends ws):(∃ a,ws=[endW a])\/(WdOk (yv ws)/\Ends ws.tail/\ws=yv ws :: ws.tail):=by
 obtain ⟨pre,a,rfl,hp⟩:=h
 cases pre with
 | nil=>exact .inl ⟨a,rfl⟩
 | cons x r=>exact .inr ⟨hp x List.mem_cons_self,⟨r,a,rfl,fun w hw=>hp w (List.mem_cons_of_mem _ hw)⟩,rfl⟩
theorem Ends.tail_of_kind {ws:List Wd} (h:Ends ws) (hk:(yv ws).k≠5):WdOk (yv ws)/\Ends ws.tail:=by
 rcases h.cases with ⟨a,rfl⟩ | ⟨h1,h2,-⟩
 ·exact absurd rfl hk
 ·exact ⟨h1,h2⟩
theorem Ends.tail_of_text {ws:List Wd} (h:Ends ws) (hk:(yv ws).t≠⟨#[]⟩):WdOk (yv ws)/\Ends ws.tail:=by
 rcases h.cases with ⟨a,rfl⟩ | ⟨h1,h2,-⟩
 ·exact absurd rfl hk
 ·exact ⟨h1,h2⟩
structure St where
 ws:List Wd
 ts:List Tk
 ls:List Bool
 lv:Nat
 st:ByteArray
 ed:Bool
 ex:Int
 rs:List Ru
abbrev Flt:=Int × Int
def St.hd (S:St):Wd:=yv S.ws
def St.next (S:St):St:=⟨S.ws.tail,S.ts,S.ls,S.lv,S.st,S.ed,S.ex,S.rs⟩
def zj (w:Wd):Flt:=(1,w.a)
def jb (w:Wd):Flt:=(7,w.a)
def kv (k:Int) (S:St):Except Flt (Wd × St):=if S.hd.k=k then .ok (S.hd,S.next) else .error (zj S.hd)
def vg:List Tk->ByteArray->Option Nat
 | [],_=>none
 | t :: r,n=>if t.n=n then some 0 else (vg r n).map (·+1)
def tokP (w:Wd) (S:St):Except Flt (Nat × St) :=
 match vg S.ts w.t with
 | some i=>.ok (i,S)
 | none=>if S.ts.length=40 then .error (zj w) else .ok (S.ts.length,⟨S.ws,S.ts++[⟨w.t,0,0⟩],S.ls++[false],S.lv,S.st,S.ed,S.ex,S.rs⟩)
def ki (w:Wd) (S:St):Except Flt St :=
 match tokP w S with
 | .error f=>.error f
 | .ok (i,S)=>if (S.ls[i]?).getD false=true then .error (jb w) else .ok ⟨S.ws,S.ts,S.ls.set i true,S.lv,S.st,S.ed,S.ex,S.rs⟩
def tkAt (ts:List Tk) (i:Nat):Tk:=(ts[i]?).getD ⟨⟨#[]⟩,0,0⟩
def levP (l a:Int) (w:Wd) (S:St):Except Flt St :=
 match tokP w S with
 | .error f=>.error f
 | .ok (i,S)=>if (tkAt S.ts i).l≠0 then .error (jb w) else .ok ⟨S.ws,S.ts.set i ⟨(tkAt S.ts i).n,l,a⟩,S.ls,S.lv,S.st,S.ed,S.ex,S.rs⟩
def zt (say:Wd->St->Except Flt St):Nat->St->Except Flt St
 | 0,S=>.ok S
 | f+1,S =>
  match kv 1 S with
  | .error e=>.error e
  | .ok (w,S1) =>
   match say w S1 with
   | .error e=>.error e
   | .ok S2=>if S2.hd.k=1 then zt say f S2 else .ok S2
def kw (key:Wd) (a:Int) (S:St):Except Flt St :=
 if S.lv=8 then .error (zj key) else zt (levP ((S.lv:Int)+1) a) S.ws.length ⟨S.ws,S.ts,S.ls,S.lv+1,S.st,S.ed,S.ex,S.rs⟩
def vo (key:Wd) (S:St):Except Flt St :=
 if S.st≠⟨#[]⟩ then .error (jb key) else
  match kv 1 S with
  | .error e=>.error e
  | .ok (w,S1)=>.ok ⟨S1.ws,S1.ts,S1.ls,S1.lv,w.t,S1.ed,S1.ex,S1.rs⟩
def numP (l:List UInt8):Int:=l.foldl (fun a c=>a * 10+((c.toNat:Int) - 48)) 0
def jg (key:Wd) (S:St):Except Flt St :=
 if S.ed=true then .error (jb key) else
  match kv 2 S with
  | .error e=>.error e
  | .ok (w,S1)=>.ok ⟨S1.ws,S1.ts,S1.ls,S1.lv,S1.st,true,numP (by8 w.t),S1.rs⟩
def tTok:ByteArray:=⟨#[37,116,111,107,101,110]⟩
def qmm:ByteArray:=⟨#[37,108,101,102,116]⟩
def qjp:ByteArray:=⟨#[37,114,105,103,104,116]⟩
def tNon:ByteArray:=⟨#[37,110,111,110,97,115,115,111,99]⟩
def qjq:ByteArray:=⟨#[37,115,116,97,114,116]⟩
def tExp:ByteArray:=⟨#[37,101,120,112,101,99,116]⟩
def qjc:ByteArray:=⟨#[37,112,114,101,99]⟩
def tTwo:ByteArray:=⟨#[37,37]⟩
def tCol:ByteArray:=⟨#[58]⟩
def tBar:ByteArray:=⟨#[124]⟩
def qmn:ByteArray:=⟨#[59]⟩
def zm (S:St):Except Flt St :=
 if S.hd.t=tTok then zt ki S.ws.length S.next
 else if S.hd.t=qmm then kw S.hd 1 S.next
 else if S.hd.t=qjp then kw S.hd 2 S.next
 else if S.hd.t=tNon then kw S.hd 3 S.next
 else if S.hd.t=qjq then vo S.hd S.next
 else if S.hd.t=tExp then jg S.hd S.next
 else .error (zj S.hd)
def symP:Nat->List ByteArray->St->Except Flt (List ByteArray × St)
 | 0,l,S=>.ok (l,S)
 | f+1,l,S=>if S.hd.k=1 then (if l.length=20 then .error (zj S.hd) else symP f (l++[S.hd.t]) S.next) else .ok (l,S)
def kg (S:St) (r:Ru):St:=⟨S.ws,S.ts,S.ls,S.lv,S.st,S.ed,S.ex,S.rs++[r]⟩
def altP (left:ByteArray) (S:St):Except Flt St :=
 if S.rs.length=100 then .error (zj S.hd) else
  match symP S.ws.length [] S with
  | .error e=>.error e
  | .ok (r,S1) =>
   if S1.hd.t=qjc then
    match kv 1 S1.next with
    | .error e=>.error e
    | .ok (w,S2)=>.ok (kg S2 ⟨left,r,w.t⟩)
   else .ok (kg S1 ⟨left,r,⟨#[]⟩⟩)
def ji (left:ByteArray):Nat->St->Except Flt St
 | 0,S=>.ok S
 | f+1,S =>
  match altP left S with
  | .error e=>.error e
  | .ok S1=>if S1.hd.t=qmn then .ok S1.next else if S1.hd.t=tBar then ji left f S1.next else .error (zj S1.hd)
def jh (S:St):Except Flt St :=
 match kv 1 S with
 | .error e=>.error e
 | .ok (w,S1)=>if S1.hd.t=tCol then ji w.t S1.ws.length S1.next else .error (zj S1.hd)
def x8:Nat->St->Except Flt St
 | 0,S=>.ok S
 | f+1,S=>if S.hd.t=tTwo then .ok S.next else
  match zm S with
  | .error e=>.error e
  | .ok S1=>x8 f S1
def x9:Nat->St->Except Flt St
 | 0,S=>.ok S
 | f+1,S=>if S.hd.k=5 then .ok S else
  match jh S with
  | .error e=>.error e
  | .ok S1=>x9 f S1
def vh (S:St):Except Flt St :=
 match x8 S.ws.length S with
 | .error e=>.error e
 | .ok S1=>x9 S1.ws.length S1
structure StOk (S:St):Prop where
 ends:Ends S.ws
 nt:S.ts.length<=40
 nl:S.ls.length=S.ts.length
 lv:S.lv<=8
 nr:S.rs.length<=100
theorem StOk.next {S:St} (h:StOk S) (he:Ends S.ws.tail):StOk S.next:=⟨he,h.nt,h.nl,h.lv,h.nr⟩
theorem j4 {S:St} (h:StOk S):S.next.ws.length+1=S.ws.length:=by
 obtain ⟨r,hr⟩:=h.ends.head
 show S.ws.tail.length+1=_
 rw [hr]
 rfl
theorem qpe {k:Int} {S S1:St} {w:Wd} (h:StOk S) (hk:k≠5) (ht:kv k S=.ok (w,S1)):WdOk w/\w=S.hd/\w.k=k/\S1=S.next/\StOk S1:=by
 unfold kv at ht
 split at ht
 ·rename_i hc
  cases ht
  obtain ⟨h1,h2⟩:=h.ends.tail_of_kind (by rw [show (yv S.ws).k=k from hc];exact hk)
  exact ⟨h1,rfl,hc,rfl,h.next h2⟩
 ·cases ht
theorem qbb {k:Int} {S:St} {f:Flt} (ht:kv k S=.error f):S.hd.k≠k/\f=zj S.hd:=by
 unfold kv at ht
 split at ht
 ·cases ht
 ·rename_i hc
  cases ht
  exact ⟨hc,rfl⟩
theorem qfk:∀ {ts:List Tk} {n:ByteArray} {i:Nat},vg ts n=some i->∃ t,ts[i]?=some t/\t.n=n
 | [],n,i,h=>by cases h
 | t :: r,n,i,h=>by
  unfold vg at h
  split at h
  ·rename_i hc
   cases h
   exact ⟨t,rfl,hc⟩
  ·obtain ⟨j,hj,rfl⟩:=Option.map_eq_some_iff.1 h
   obtain ⟨u,hu,hn⟩:=qfk hj
   exact ⟨u,by simpa using hu,hn⟩
theorem qcv {w:Wd} {S S1:St} {i:Nat} (h:StOk S) (ht:tokP w S=.ok (i,S1)):StOk S1/\i<S1.ts.length/\S1.ws=S.ws/\S1.lv=S.lv:=by
 unfold tokP at ht
 split at ht
 ·rename_i j hj
  cases ht
  obtain ⟨t,ht,-⟩:=qfk hj
  exact ⟨h,(List.getElem?_eq_some_iff.1 ht).1,rfl,rfl⟩
 ·split at ht
  ·cases ht
  ·rename_i hc
   cases ht
   refine ⟨⟨h.ends,?_,?_,h.lv,h.nr⟩,?_,rfl,rfl⟩
   ·simp only [List.length_append,List.length_cons,List.length_nil]
    have:=h.nt
    omega
   ·simp only [List.length_append,List.length_cons,List.length_nil]
    rw [h.nl]
   ·simp only [List.length_append,List.length_cons,List.length_nil]
    omega
theorem qpf {w:Wd} {S S1:St} (h:StOk S) (ht:ki w S=.ok S1):StOk S1/\S1.ws=S.ws/\S1.lv=S.lv:=by
 unfold ki at ht
 split at ht
 ·cases ht
 ·rename_i i S2 h2
  obtain ⟨a,b,c,d⟩:=qcv h h2
  split at ht
  ·cases ht
  ·cases ht
   exact ⟨⟨a.ends,a.nt,by simp only [List.length_set];exact a.nl,a.lv,a.nr⟩,c,d⟩
theorem qqz {l q:Int} {w:Wd} {S S1:St} (h:StOk S) (ht:levP l q w S=.ok S1):StOk S1/\S1.ws=S.ws/\S1.lv=S.lv:=by
 unfold levP at ht
 split at ht
 ·cases ht
 ·rename_i i S2 h2
  obtain ⟨a,b,c,d⟩:=qcv h h2
  split at ht
  ·cases ht
  ·cases ht
   exact ⟨⟨a.ends,by simp only [List.length_set];exact a.nt,by simp only [List.length_set];exact a.nl,a.lv,a.nr⟩,c,d⟩
end Go.Proofs.YtngclmglmhiljaaGreatDoor
namespace Go.Proofs.YtngclmglmhiljaaGreatDoor
open Go.RowKit Go.Sort
theorem qay:Tryz.prog.follows .mixedOrders=true:=by kernel_rfl
theorem qj {w w':World} {a:Addr} {v:Value} (hb:Below w.heap.size w w') (h:w.cell? a=some v):w'.cell? a=some v:=by
 have hl:=World.block_lt_of_cell? w a h
 rw [<-h]
 unfold World.cell?
 rw [hb.block _ hl]
def onto (w:World) (n:Nat) (os:Array Obj):World:=grow { w with drawn:=n } os
theorem ke (w:World) (n:Nat) (os:Array Obj):Below w.heap.size w (onto w n os):=by
 refine ⟨rfl,rfl,rfl,by simp [onto,grow],fun k hk=>?_⟩
 unfold onto grow
 simp only [Array.getElem?_append]
 rw [if_pos hk]
theorem qir {w w':World} (h:Below w.heap.size w w'):∃ n os,w'=onto w n os:=by
 refine ⟨w'.drawn,w'.heap.extract w.heap.size w'.heap.size,?_⟩
 obtain ⟨hp,tp,dr,o,ou⟩:=w'
 obtain ⟨h1,h2,h3,h4,h5⟩:=h
 simp only at h1 h2 h3 h4 h5
 unfold onto grow
 simp only [h1,h2,h3]
 congr 1
 apply Array.ext_getElem?
 intro i
 rw [Array.getElem?_append]
 split
 ·rename_i hi;exact h5 i hi
 ·rename_i hi
  rw [Array.getElem?_extract]
  split
  ·congr 1;omega
  ·rename_i hk
   rw [Array.getElem?_eq_none (by omega)]
theorem kh {w:World} {a:Addr} {v:Value} (h:w.cell? a=some v) (n:Nat) (os:Array Obj):(onto w n os).cell? a=some v:=qj (ke w n os) h
theorem zv {id:Nat} {Q:Exit->Act->World->Prop} {a:Act} {w:World} {l:List Oper} (hB:Region.lexB .any l.toArray=true)
  (h:wpQuiet Tryz.prog l.toArray (fun w'=>∃ p:GrownBy,w'=onto w p.n p.os) (fun a'=>∀ w',(∃ p:GrownBy,w'=onto w p.n p.os)->Q .normal a' w') l a):(Code.region id l.toArray true).wp Tryz.prog Q a w :=
 wp_region_quiet (C:=fun w'=>∃ p:GrownBy,w'=onto w p.n p.os) qay hB ⟨⟨w.drawn+1,#[]⟩,by unfold onto;rw [grow_empty]⟩ (by simpa using h)
theorem j5 {f:FuncId} {args:Array Value} {w:World} {n:Nat} {os:Array Obj} {v:Value}
  (h:Calls Tryz.prog f args (onto w n os) fun e w'=>e=.returned v/\Below (onto w n os).heap.size (onto w n os) w'):Calls Tryz.prog f args (onto w n os) fun e w''=>e=.returned v/\∃ p:GrownBy,w''=onto w p.n p.os :=
 h.mono fun _ _ ⟨he,hb⟩=>⟨he,by
  obtain ⟨m,os',rfl⟩:=qir (qd (ke w n os) hb)
  exact ⟨⟨m,os'⟩,rfl⟩⟩
theorem qag {f:FuncId} {args:Array Value} {w:World} {n:Nat} {os:Array Obj} {v:Value}
  (h:Calls Tryz.prog f args (onto w n os) fun e w'=>e=.returned v/\w'=onto w n os):Calls Tryz.prog f args (onto w n os) fun e w''=>e=.returned v/\∃ p:GrownBy,w''=onto w p.n p.os :=
 h.mono fun _ _ ⟨he,hb⟩=>⟨he,⟨n,os⟩,hb⟩
structure Row (w:World) (k:Nat) (ao:Option Addr) (n cap:Nat) (cs:List Value):Prop where
 len:cs.length=n * k
 le:n<=cap
 max:cap<=maxLen
 lies:(ao=none/\n=0/\cap=0)\/∃ b o,ao=some ⟨b,o,none⟩/\∀ (j:Nat) (u:Value),cs[j]?=some u->w.cell? ⟨b,o+j,none⟩=some u
theorem Row.below {w w':World} {k:Nat} {ao:Option Addr} {n cap:Nat} {cs:List Value} (h:Row w k ao n cap cs) (hb:Below w.heap.size w w'):Row w' k ao n cap cs :=
 ⟨h.len,h.le,h.max,h.lies.imp id fun ⟨b,o,he,hc⟩=>⟨b,o,he,fun j u hu=>qj hb (hc j u hu)⟩⟩
theorem Row.at {w:World} {k:Nat} {ao:Option Addr} {n cap:Nat} {cs:List Value} (h:Row w k ao n cap cs) (hn:0<n):∃ b o,ao=some ⟨b,o,none⟩/\∀ (j:Nat) (u:Value),cs[j]?=some u->w.cell? ⟨b,o+j,none⟩=some u:=by
 rcases h.lies with ⟨-,h0,-⟩ | h
 ·omega
 ·exact h
theorem Row.take {w:World} {k:Nat} {ao:Option Addr} {n cap:Nat} {cs:List Value} (h:Row w k ao n cap cs) (i:Nat) (hi:i<=n):Row w k ao i cap (cs.take (i * k)):=by
 have hm:i * k<=n * k:=Nat.mul_le_mul_right k hi
 refine ⟨by rw [List.length_take,h.len];omega,by have:=h.le;omega,h.max,?_⟩
 rcases h.lies with ⟨h1,h2,h3⟩ | ⟨b,o,he,hc⟩
 ·exact .inl ⟨h1,by omega,h3⟩
 ·refine .inr ⟨b,o,he,fun j u hu=>hc j u ?_⟩
  rw [List.getElem?_take] at hu
  split at hu
  ·exact hu
  ·cases hu
theorem Row.of_own {w:World} {base E k n:Nat} {ao:Option Addr} {cap:Nat} {cs:List Value} (h:w.ownsRow base E k (.slice ao n cap) n cs):Row w k ao n cap cs:=by
 obtain ⟨a1,c1,e,h1,h2,h3⟩:=zh h
 cases e
 refine ⟨h.1,h1,h2,?_⟩
 rcases h3 with h3 | ⟨g,rfl⟩
 ·exact .inl h3
 ·refine .inr ⟨g,0,rfl,fun j u hu=>?_⟩
  have:=World.ownsRow.cells h (g:=g) rfl j u hu
  rwa [Addr.add_lit] at this
def strC (l:List ByteArray):List Value:=l.map Value.string
def tokC (ts:List Tk):List Value:=ts.flatMap fun t=>[.string t.n,.int .i64 t.l,.int .i64 t.a]
def rulC (qs:List (Ru × Option Addr × Nat)):List Value:=qs.flatMap fun q=>[.string q.1.l,.slice q.2.1 q.1.r.length q.2.2,.string q.1.p]
theorem vp {α:Type} (f:α->List Value) (hf:∀ x,(f x).length=3):∀ (l:List α) (i:Nat) (x:α) (j:Nat),l[i]?=some x->j<3->(l.flatMap f)[i * 3+j]?=(f x)[j]?
 | [],i,x,j,h,_=>by cases h
 | y :: r,0,x,j,h,hj=>by
  cases h
  rw [List.flatMap_cons,List.getElem?_append_left (by rw [hf];omega)]
  rw [Nat.zero_mul,Nat.zero_add]
 | y :: r,i+1,x,j,h,hj=>by
  rw [List.flatMap_cons,List.getElem?_append_right (by rw [hf];omega),hf]
  rw [show (i+1) * 3+j - 3=i * 3+j by omega]
  exact vp f hf r i x j h hj
theorem qah {α:Type} (f:α->List Value) (hf:∀ x,(f x).length=3):∀ (l:List α),(l.flatMap f).length=l.length * 3
 | []=>rfl
 | y :: r=>by rw [List.flatMap_cons,List.length_append,hf,qah f hf r,List.length_cons];omega
theorem qmo {α:Type} (f:α->List Value) (hf:∀ x,(f x).length=3) (l:List α) (i:Nat):(l.flatMap f).take (i * 3)=(l.take i).flatMap f:=by
 induction i generalizing l with
 | zero=>simp
 | succ i ih =>
  cases l with
  | nil=>simp
  | cons y r =>
   rw [List.take_succ_cons,List.flatMap_cons,List.flatMap_cons,List.take_append,hf,List.take_of_length_le (by rw [hf];omega),show (i+1) * 3 - 3=i * 3 by omega,ih]
theorem ja {w:World} {ao:Option Addr} {n cap:Nat} {ts:List Tk} (h:Row w 3 ao n cap (tokC ts)) {i:Nat} {t:Tk} (ht:ts[i]?=some t) :
  ∃ b o,ao=some ⟨b,o,none⟩/\w.cell? ⟨b,o+i * 3,none⟩=some (.string t.n)/\w.cell? ⟨b,o+i * 3+1,none⟩=some (.int .i64 t.l)/\w.cell? ⟨b,o+i * 3+2,none⟩=some (.int .i64 t.a):=by
 have hl:=h.len
 unfold tokC at hl
 rw [qah _ (fun _=>rfl)] at hl
 have hi:i<ts.length:=(List.getElem?_eq_some_iff.1 ht).1
 obtain ⟨b,o,he,hc⟩:=h.at (by omega)
 refine ⟨b,o,he,?_,?_,?_⟩
 ·exact hc (i * 3+0) _ (by unfold tokC;rw [vp _ (fun _=>rfl) ts i t 0 ht (by omega)];rfl)
 ·exact hc (i * 3+1) _ (by unfold tokC;rw [vp _ (fun _=>rfl) ts i t 1 ht (by omega)];rfl)
 ·exact hc (i * 3+2) _ (by unfold tokC;rw [vp _ (fun _=>rfl) ts i t 2 ht (by omega)];rfl)
theorem qrz {w:World} {ao:Option Addr} {n cap:Nat} {qs:List (Ru × Option Addr × Nat)} (h:Row w 3 ao n cap (rulC qs)) {i:Nat} {q:Ru × Option Addr × Nat} (ht:qs[i]?=some q) :
  ∃ b o,ao=some ⟨b,o,none⟩/\w.cell? ⟨b,o+i * 3,none⟩=some (.string q.1.l)/\w.cell? ⟨b,o+i * 3+1,none⟩=some (.slice q.2.1 q.1.r.length q.2.2)/\w.cell? ⟨b,o+i * 3+2,none⟩=some (.string q.1.p):=by
 have hl:=h.len
 unfold rulC at hl
 rw [qah _ (fun _=>rfl)] at hl
 have hi:i<qs.length:=(List.getElem?_eq_some_iff.1 ht).1
 obtain ⟨b,o,he,hc⟩:=h.at (by omega)
 refine ⟨b,o,he,?_,?_,?_⟩
 ·exact hc (i * 3+0) _ (by unfold rulC;rw [vp _ (fun _=>rfl) qs i q 0 ht (by omega)];rfl)
 ·exact hc (i * 3+1) _ (by unfold rulC;rw [vp _ (fun _=>rfl) qs i q 1 ht (by omega)];rfl)
 ·exact hc (i * 3+2) _ (by unfold rulC;rw [vp _ (fun _=>rfl) qs i q 2 ht (by omega)];rfl)
theorem jm {w:World} {ao:Option Addr} {n cap:Nat} {l:List ByteArray} (h:Row w 1 ao n cap (strC l)) {i:Nat} {s:ByteArray} (ht:l[i]?=some s) :
  ∃ b o,ao=some ⟨b,o,none⟩/\w.cell? ⟨b,o+i,none⟩=some (.string s):=by
 have hl:=h.len
 unfold strC at hl
 rw [List.length_map] at hl
 have hi:i<l.length:=(List.getElem?_eq_some_iff.1 ht).1
 obtain ⟨b,o,he,hc⟩:=h.at (by omega)
 exact ⟨b,o,he,hc i _ (by unfold strC;rw [List.getElem?_map,ht];rfl)⟩
theorem qpg {w:World} {ao:Option Addr} {n cap:Nat} {ts:List Tk} (h:Row w 3 ao n cap (tokC ts)) (i:Nat) (hi:i<=n):Row w 3 ao i cap (tokC (ts.take i)):=by
 have:=h.take i hi
 unfold tokC at this ⊢
 rwa [qmo _ (fun _=>rfl)] at this
def ks (w:World) (ao:Option Addr) (n cap:Nat) (rs:List Ru):Prop :=
 ∃ qs:List (Ru × Option Addr × Nat),qs.map (·.1)=rs/\Row w 3 ao n cap (rulC qs)/\∀ q∈qs,Row w 1 q.2.1 q.1.r.length q.2.2 (strC q.1.r)
theorem ks.below {w w':World} {ao:Option Addr} {n cap:Nat} {rs:List Ru} (h:ks w ao n cap rs) (hb:Below w.heap.size w w'):ks w' ao n cap rs:=by
 obtain ⟨qs,h1,h2,h3⟩:=h
 exact ⟨qs,h1,h2.below hb,fun q hq=>(h3 q hq).below hb⟩
theorem ks.at {w:World} {ao:Option Addr} {n cap:Nat} {rs:List Ru} (h:ks w ao n cap rs) {i:Nat} {r:Ru} (hr:rs[i]?=some r) :
  ∃ b o xa xc,ao=some ⟨b,o,none⟩/\w.cell? ⟨b,o+i * 3,none⟩=some (.string r.l)/\w.cell? ⟨b,o+i * 3+1,none⟩=some (.slice xa r.r.length xc)/\w.cell? ⟨b,o+i * 3+2,none⟩=some (.string r.p)/\Row w 1 xa r.r.length xc (strC r.r):=by
 obtain ⟨qs,rfl,h2,h3⟩:=h
 rw [List.getElem?_map] at hr
 obtain ⟨q,hq,rfl⟩:=Option.map_eq_some_iff.1 hr
 obtain ⟨b,o,he,c0,c1,c2⟩:=qrz h2 hq
 exact ⟨b,o,q.2.1,q.2.2,he,c0,c1,c2,h3 q (List.mem_of_getElem? hq)⟩
structure Hd where
 ta:Option Addr
 tc:Nat
 ra:Option Addr
 rc:Nat
def gv (h:Hd) (G:Gm):Value:=.agg #[.slice h.ta G.ts.length h.tc,.string G.s,.int .i64 G.e,.slice h.ra G.rs.length h.rc]
structure IsG (w:World) (h:Hd) (G:Gm):Prop where
 tok:Row w 3 h.ta G.ts.length h.tc (tokC G.ts)
 rul:ks w h.ra G.rs.length h.rc G.rs
 small:Small G
theorem IsG.below {w w':World} {h:Hd} {G:Gm} (g:IsG w h G) (hb:Below w.heap.size w w'):IsG w' h G:=⟨g.tok.below hb,g.rul.below hb,g.small⟩
end Go.Proofs.YtngclmglmhiljaaGreatDoor
namespace Go.Proofs.YtngclmglmhiljaaGreatDoor
open Go.RowKit
theorem qb (w:World) (o:Obj):Below w.heap.size w (w.alloc o):=(Below.refl _ _).alloc (Nat.le_refl _) _
theorem qo {w:World} {a:Addr} {v:Value} (h:w.cell? a=some v) (o:Obj):(w.alloc o).cell? a=some v:=qj (qb w o) h
theorem qmp (t:Tk) (nb:Nat) (s:ByteArray) (w:World) (hc:w.cell? ⟨nb,0,none⟩=some (.string s)) :
  Calls Tryz.prog 115 #[.agg #[.string t.n,.int .i64 t.l,.int .i64 t.a],.pointer (some ⟨nb,0,none⟩)] w fun e w'=>e=.returned (.bool (t.n.toList == s.toList))/\Below w.heap.size w w':=by
 have hc:=qo hc
 go_enter Tryz.func115,Tryz.ntmps115
 go_wp2
 go_ret
 exact ⟨rfl,(Below.refl _ _).alloc (Nat.le_refl _) _⟩
def hasN (ts:List Tk) (s:ByteArray):Prop:=∃ t∈ts,t.n=s
theorem qf6 (ts:List Tk) (ao:Option Addr) (n cap nb:Nat) (s:ByteArray) (w:World) (hr:Row w 3 ao n cap (tokC ts)) (hn:n=ts.length) (hnn:n<=1000) (hc:w.cell? ⟨nb,0,none⟩=some (.string s)) :
  Calls Tryz.prog 129 #[.slice ao n cap,.func (.func 115) #[] #[.pointer (some ⟨nb,0,none⟩)]] w fun e w'=>∃ r:Int,e=.returned (.int .i64 r)/\(0<=r↔hasN ts s)/\Below w.heap.size w w':=by
 have HN:Hid (n=ts.length):=hn
 have HR:Hid (Row w 3 ao n cap (tokC ts)/\w.cell? ⟨nb,0,none⟩=some (.string s)):=⟨hr,hc⟩
 have hle:=hr.le
 have hmx:cap<=9223372036854775807:=by have:=hr.max;unfold maxLen at this;omega
 clear hr hc hn
 go_enter Tryz.func129,Tryz.ntmps129
 go_wp2
 go_loopg [8] n (fun kx s8 wr=>∃ k:Nat,s8=.int .i64 k/\k<=n/\n - k<=kx/\Hid (Below w.heap.size w wr/\∀ i t,i<k->ts[i]?=some t->t.n≠s))
 case atStart=>exact ⟨0,rfl,Nat.zero_le _,by omega,(⟨Below.refl _ _,fun i t hi=>absurd hi (Nat.not_lt_zero _)⟩:Below w.heap.size w w/\∀ i t,i<0->ts[i]?=some t->t.n≠s)⟩
 case round =>
  obtain ⟨k,rfl,hk,hg,J⟩:=hrel
  by_cases hlt:k<n
  ·obtain ⟨t,ht⟩:∃ t,ts[k]?=some t:=⟨ts[k]'(by rw [<-HN.out];exact hlt),List.getElem?_eq_getElem _⟩
   obtain ⟨b,o,rfl,c0,c1,c2⟩:=ja (HR.out.1.below J.out.1) ht
   have HT:Hid (ts[k]?=some t):=ht
   have HC:Hid (Calls Tryz.prog 115 #[.agg #[.string t.n,.int .i64 t.l,.int .i64 t.a],.pointer (some ⟨nb,0,none⟩)] wr fun e w'=>e=.returned (.bool (t.n.toList == s.toList))/\Below wr.heap.size wr w'):=qmp t nb s wr (qj J.out.1 HR.out.2)
   clear ht
   by_cases he:t.n=s
   ·have hb:=xh he
    rw [hb] at HC
    have HF:Hid (hasN ts s):=⟨t,List.mem_of_getElem? HT.out,he⟩
    generalize t.n=tn at c0 HC
    clear hb he
    go_wp2_with (go_at_call 115;refine HC.out.mono ?_;rintro e w1 ⟨rfl,hB⟩)
    go_ret
    exact ⟨k,rfl,⟨fun _=>HF.out,fun _=>by omega⟩,qd J.out.1 hB⟩
   ·have hb:=k9 he
    rw [hb] at HC
    have HF:Hid (∀ i t,i<k+1->ts[i]?=some t->t.n≠s):=fun i u hi hu=>by
     rcases Nat.lt_or_ge i k with h | h
     ·exact J.out.2 i u h hu
     ·have:i=k:=by omega
      subst this
      rw [HT.out] at hu
      cases hu
      exact he
    generalize t.n=tn at c0 HC
    clear hb he
    go_wp2_with (go_at_call 115;refine HC.out.mono ?_;rintro e w1 ⟨rfl,hB⟩)
    go_roundg (n - (k+1))
    case measure=>omega
    case rel=>exact ⟨k+1,by simp,by omega,Nat.le_refl _,(⟨qd J.out.1 hB,HF.out⟩:Below w.heap.size w w1/\∀ i t,i<k+1->ts[i]?=some t->t.n≠s)⟩
  ·go_wp2
   go_ret
   refine ⟨-1,rfl,⟨fun h=>by omega,fun ⟨t,hm,he⟩=>?_⟩,J.out.1⟩
   obtain ⟨i,hi⟩:=List.getElem?_of_mem hm
   have hl:i<ts.length:=(List.getElem?_eq_some_iff.1 hi).1
   exact absurd he (J.out.2 i t (by rw [<-HN.out] at hl;omega) hi)
theorem qha (ts:List Tk) (ao:Option Addr) (n cap nb:Nat) (s:ByteArray) (w:World) (r:Bool) (hp:r=true↔hasN ts s) (hr:Row w 3 ao n cap (tokC ts)) (hn:n=ts.length) (hnn:n<=1000) (hc:w.cell? ⟨nb,0,none⟩=some (.string s)) :
  Calls Tryz.prog 114 #[.slice ao n cap,.func (.func 115) #[] #[.pointer (some ⟨nb,0,none⟩)]] w fun e w'=>e=.returned (.bool r)/\Below w.heap.size w w':=by
 have H1:Hid (Calls Tryz.prog 129 #[.slice ao n cap,.func (.func 115) #[] #[.pointer (some ⟨nb,0,none⟩)]] w fun e w'=>∃ r:Int,e=.returned (.int .i64 r)/\(0<=r↔hasN ts s)/\Below w.heap.size w w') :=
  qf6 ts ao n cap nb s _ hr hn hnn hc
 have HP:Hid (r=true↔hasN ts s):=hp
 clear hr hn hc hp
 go_enter Tryz.func114,Tryz.ntmps114
 go_wp2_with fail
 refine H1.out.mono ?_
 rintro e w1 ⟨x,rfl,hi,hB⟩
 have HI:Hid (r=decide (0<=x)/\Below w.heap.size w w1):=⟨by rw [Bool.eq_iff_iff,HP.out,<-hi];simp,hB⟩
 clear hi hB
 go_wp2_with fail
 go_ret
 exact ⟨by rw [HI.out.1];rfl,HI.out.2⟩
theorem qis (ts:List Tk) (ao:Option Addr) (n cap:Nat) (s:ByteArray) (w:World) (r:Bool) (hp:r=true↔hasN ts s) (hr:Row w 3 ao n cap (tokC ts)) (hn:n=ts.length) (hnn:n<=1000) :
  Calls Tryz.prog 103 #[.slice ao n cap,.string s] w fun e w'=>e=.returned (.bool r)/\Below w.heap.size w w':=by
 have H2:Hid (Calls Tryz.prog 114 #[.slice ao n cap,.func (.func 115) #[] #[.pointer (some ⟨w.heap.size,0,none⟩)]] (w.alloc (.cells #[.string s] 9)) fun e w'=>e=.returned (.bool r)/\Below (w.alloc (.cells #[.string s] 9)).heap.size (w.alloc (.cells #[.string s] 9)) w') :=
  qha ts ao n cap w.heap.size s _ r hp (hr.below (qb _ _)) hn hnn (by rw [World.cell?_alloc_mark];rfl)
 clear hr hn hp
 go_enter Tryz.func103,Tryz.ntmps103
 go_wp2_with fail
 refine H2.out.mono ?_
 rintro e w1 ⟨rfl,hB⟩
 have HI:Hid (Below w.heap.size w w1):=qd (qb _ _) hB
 clear hB
 go_wp2_with fail
 go_ret
 exact ⟨rfl,HI.out⟩
theorem zr (p:Prop):∃ b:Bool,(b=true↔p):=by
 rcases Classical.em p with h | h
 ·exact ⟨true,by simp [h]⟩
 ·exact ⟨false,by simp [h]⟩
theorem ky {p:Prop} {b:Bool} (h:b=true↔p) (hp:p):b=true:=h.2 hp
theorem zb {p:Prop} {b:Bool} (h:b=true↔p) (hp:¬ p):b=false:=by
 cases b
 ·rfl
 ·exact absurd (h.1 rfl) hp
theorem qhb (t:Tk) (w:World) :
  Calls Tryz.prog 116 #[.agg #[.string t.n,.int .i64 t.l,.int .i64 t.a]] w fun e w'=>e=.returned (.bool ((levB t)))/\Below w.heap.size w w':=by
 obtain ⟨n,l,a⟩:=t
 have HB:Hid (∀ o:Obj,Below w.heap.size w (w.alloc o)):=fun o=>(Below.refl _ _).alloc (Nat.le_refl _) _
 by_cases h0:l=0
 ·have H:Hid ((levB ⟨n,l,a⟩)=(a == 0)):=by
   show _=_
   rw [Bool.eq_iff_iff,qaq]
   unfold LevP
   simp [h0]
  have h0':(l == 0)=true:=by simpa using h0
  go_enter Tryz.func116,Tryz.ntmps116
  go_wp2
  go_ret
  exact ⟨by rw [H.out];rfl,HB.out _⟩
 ·have h0':(l == 0)=false:=by simpa using h0
  by_cases h1:1<=l
  ·by_cases h2:l<=8
   ·by_cases h3:1<=a
    ·have H:Hid ((levB ⟨n,l,a⟩)=decide (a<=3)):=by
      show _=_
      rw [Bool.eq_iff_iff,qaq]
      unfold LevP
      simp [h0,h1,h2,h3]
     go_enter Tryz.func116,Tryz.ntmps116
     go_wp2
     go_ret
     exact ⟨by rw [H.out];rfl,HB.out _⟩
    ·have H:Hid ((levB ⟨n,l,a⟩)=false):=by
      show _=_
      rw [Bool.eq_false_iff,Ne,qaq]
      unfold LevP
      simp [h0,h1,h2,h3]
     go_enter Tryz.func116,Tryz.ntmps116
     go_wp2
     go_ret
     exact ⟨by rw [H.out];rfl,HB.out _⟩
   ·have H:Hid ((levB ⟨n,l,a⟩)=false):=by
     show _=_
     rw [Bool.eq_false_iff,Ne,qaq]
     unfold LevP
     simp [h0,h1,h2]
    go_enter Tryz.func116,Tryz.ntmps116
    go_wp2
    go_ret
    exact ⟨by rw [H.out];rfl,HB.out _⟩
  ·have H:Hid ((levB ⟨n,l,a⟩)=false):=by
    show _=_
    rw [Bool.eq_false_iff,Ne,qaq]
    unfold LevP
    simp [h0,h1]
   go_enter Tryz.func116,Tryz.ntmps116
   go_wp2
   go_ret
   exact ⟨by rw [H.out];rfl,HB.out _⟩
def ar9 (l:List Int):Array Value:=(l.map (Value.int .i64)).toArray
theorem nine {l:List Int} (h:l.length=9):∃ a b c d e f g i j,l=[a,b,c,d,e,f,g,i,j]:=by
 match l,h with
 | [a,b,c,d,e,f,g,i,j],_=>exact ⟨a,b,c,d,e,f,g,i,j,rfl⟩
theorem qf7 {l:List Int} (h:l.length=9) {k:Nat} (hk:k<9):(ar9 l)[k]?=some (.int .i64 ((l[k]?).getD 0)):=by
 unfold ar9
 rw [List.getElem?_toArray,List.getElem?_map,List.getElem?_eq_getElem (by omega)]
 rfl
theorem qe {w:World} {b:Nat} {cs:Array Value} {T:TypeId} {fr:Nat × Nat} (hb:w.heap[b]?=some (.cells cs T fr)) (j:Nat):w.cell? ⟨b,j,none⟩=cs[j]?:=by
 simp [World.cell?,hb]
theorem qi {w:World} {b:Nat} {cs:Array Value} {T:TypeId} (hb:w.heap[b]?=some (.cells cs T (0,0))) (j:Nat):w.frozen? ⟨b,j,none⟩=false:=by
 simp [World.frozen?,hb]
theorem qnu (l:List Int) (hl:l.length=9) (r:Bool) (hp:r=true↔¬ qaf l) (w:World) :
  Calls Tryz.prog 117 #[.agg (ar9 l)] w fun e w'=>e=.returned (.bool r)/\Below w.heap.size w w':=by
 have HP:Hid (r=true↔¬ qaf l):=hp
 clear hp
 have hcell:Hid (∀ k,k<9->(w.alloc (.cells (ar9 l) 129)).cell? ⟨w.heap.size,k,none⟩=some (.int .i64 ((l[k]?).getD 0))):=fun k hk=>by
  rw [World.cell?_alloc_mark];exact qf7 hl hk
 have HB:Hid (Below w.heap.size w (w.alloc (.cells (ar9 l) 129))):=qb _ _
 obtain ⟨a,b,c,d,e,f,g,i,j,HE⟩:∃ a b c d e f g i j,Hid (l=[a,b,c,d,e,f,g,i,j]):=nine hl
 have hA:ar9 l=#[.int .i64 a,.int .i64 b,.int .i64 c,.int .i64 d,.int .i64 e,.int .i64 f,.int .i64 g,.int .i64 i,.int .i64 j]:=by rw [HE.out];rfl
 have hcl:=hcell
 rw [hA] at hcl HB ⊢
 clear hA hcell
 go_enter Tryz.func117,Tryz.ntmps117
 go_upto_region 1 with fail
 generalize w.alloc (.cells #[.int .i64 a,.int .i64 b,.int .i64 c,.int .i64 d,.int .i64 e,.int .i64 f,.int .i64 g,.int .i64 i,.int .i64 j] 129)=w1 at hcl HB ⊢
 go_wp2
 go_loop [3] (fun v=>∃ k:Nat,2<=k/\k<=9/\v=.int .i64 k/\Hid (∀ m,2<=m->m<k->(l[m]?).getD 0≠0->(l[m - 1]?).getD 0≠0)) (fun v=>9 - (intOf v).toNat)
 case atStart=>exact ⟨2,by omega,by omega,rfl,(fun m h1 h2=>by omega:∀ m,2<=m->m<2->(l[m]?).getD 0≠0->(l[m - 1]?).getD 0≠0)⟩
 case round =>
  obtain ⟨k,h2,h9,rfl,J⟩:=hrel
  by_cases hlt:k<9
  ·have c0:=hcl.out k hlt
   have c1:=hcl.out (k - 1) (by omega)
   have JN:Hid (¬ ((l[k]?).getD 0≠0/\(l[k - 1]?).getD 0=0)->∀ m,2<=m->m<k+1->(l[m]?).getD 0≠0->(l[m - 1]?).getD 0≠0):=fun hno m hm1 hm2 hm3 h0=>by
    rcases Nat.lt_or_ge m k with h | h
    ·exact J.out m hm1 h hm3 h0
    ·have:m=k:=by omega
     subst this
     exact hno ⟨hm3,h0⟩
   have JY:Hid ((l[k]?).getD 0≠0/\(l[k - 1]?).getD 0=0->¬ qaf l):=fun ⟨ha,hb⟩ hno=>hno k h2 hlt ha hb
   have hkk:((k - 1:Nat):Int)=(k:Int) - 1:=by omega
   generalize (l[k]?).getD 0=x at c0 JN JY
   generalize (l[k - 1]?).getD 0=y at c1 JN JY
   obtain ⟨k1,hk1⟩:∃ k1:Nat,k=k1+1:=⟨k - 1,by omega⟩
   subst hk1
   rw [show k1+1 - 1=k1 by omega] at c1
   clear hkk
   by_cases hx:x=0
   ·have hx':(x != 0)=false:=by simpa using hx
    have JN2:Hid (∀ m,2<=m->m<k1+1+1->(l[m]?).getD 0≠0->(l[m - 1]?).getD 0≠0):=JN.out (fun h=>h.1 hx)
    clear JN JY hx
    go_wp2
    go_round
    case rel=>exact ⟨k1+1+1,by omega,by omega,by simp,JN2⟩
    case measure=>simp [intOf];omega
   ·have hx':(x != 0)=true:=by simpa using hx
    by_cases hy:y=0
    ·have hy':(y == 0)=true:=by simpa using hy
     have JY2:Hid (r=true):=ky HP.out (JY.out ⟨hx,hy⟩)
     clear JN JY hx hy
     go_wp2
     go_ret
     exact ⟨by rw [JY2.out];rfl,HB.out⟩
    ·have hy':(y == 0)=false:=by simpa using hy
     have JN2:Hid (∀ m,2<=m->m<k1+1+1->(l[m]?).getD 0≠0->(l[m - 1]?).getD 0≠0):=JN.out (fun h=>hy h.2)
     clear JN JY hx hy
     go_wp2
     go_round
     case rel=>exact ⟨k1+1+1,by omega,by omega,by simp,JN2⟩
     case measure=>simp [intOf];omega
  ·obtain rfl:k=9:=by omega
   have JY2:Hid (r=false):=zb HP.out (fun h=>absurd (fun k h1 h2=>J.out k h1 h2) h)
   go_wp2
   go_ret
   exact ⟨by rw [JY2.out];rfl,HB.out⟩
structure Kept (S:Nat->Prop) (w w':World):Prop where
 os:w'.os=w.os
 tape:w'.tape=w.tape
 output:w'.output=w.output
 size:w.heap.size<=w'.heap.size
 block:∀ k,k<w.heap.size->¬ S k->w'.heap[k]?=w.heap[k]?
theorem Kept.refl (S:Nat->Prop) (w:World):Kept S w w:=⟨rfl,rfl,rfl,Nat.le_refl _,fun _ _ _=>rfl⟩
theorem Kept.trans {S T:Nat->Prop} {a b c:World} (h:Kept S a b) (k:Kept T b c) (hT:∀ i,i<a.heap.size->T i->S i):Kept S a c :=
 ⟨k.os.trans h.os,k.tape.trans h.tape,k.output.trans h.output,Nat.le_trans h.size k.size,
  fun i hi hs=>(k.block i (Nat.lt_of_lt_of_le hi h.size) (fun ht=>hs (hT i hi ht))).trans (h.block i hi hs)⟩
theorem zk {S:Nat->Prop} {w w':World} (h:Below w.heap.size w w'):Kept S w w':=⟨h.os,h.tape,h.output,h.size,fun k hk _=>h.block k hk⟩
theorem Kept.below {S:Nat->Prop} {w w':World} (h:Kept S w w') {B:Nat} (hB:B<=w.heap.size) (hS:∀ k,k<B->¬ S k):Below B w w' :=
 ⟨h.os,h.tape,h.output,h.size,fun k hk=>h.block k (by omega) (hS k hk)⟩
theorem Kept.alloc {S:Nat->Prop} {a w:World} (h:Kept S a w) (o:Obj):Kept S a (w.alloc o) :=
 h.trans (T:=fun _=>False) (zk ((Below.refl _ _).alloc (Nat.le_refl _) _)) (fun _ _ f=>f.elim)
theorem Kept.drewN {S:Nat->Prop} {a w:World} (h:Kept S a w) (n:Nat):Kept S a (w.drewN n):=⟨h.os,h.tape,h.output,h.size,h.block⟩
theorem Kept.drew {S:Nat->Prop} {a w:World} (h:Kept S a w):Kept S a w.drew:=⟨h.os,h.tape,h.output,h.size,h.block⟩
theorem Kept.setCell {S:Nat->Prop} {a w:World} (h:Kept S a w) (p:Addr) (u:Value) (hp:p.block<a.heap.size->S p.block):Kept S a (w.setCell p u) :=
 h.trans (T:=fun k=>k=p.block) ⟨rfl,rfl,rfl,by simp [World.setCell],fun k _ hne=>Below.heap_setCell _ _ _ _ hne⟩ (fun i hi e=>by subst e;exact hp hi)
theorem qai {P:Program} (w:World) (t ty e:TypeId) (i:TypeInfo) (z:Value) (size bytes:Nat) (ht:P.underlying t=some (.slice e)) (hi:P.info? e=some i) (hz:i.zero=some z)
  (hsize:i.size=size) (hby:i.bytes=bytes) (hzs:z.cells.size=size) (hsz:0<size)
  (v:Value) (n:Nat) (xs:List Value) (hown:w.ownsRow 0 e size v n xs)
  (a:Addr) (m c:Nat) (news:List Value) (hl:news.length=m * size) (hnews:∀ j u,news[j]?=some u->w.cell? (a.add j)=some u) (h1:∀ u∈news,u.oneCell'=true)
  (h63:n+m<=maxLen) (hbytes:(n+m) * bytes<=140737488355328) :
  ∃ v' w',(Builtin.append_ #[t,t] ty #[v,.slice (some a) m c]).run P w=.ok v' w'/\w'.ownsRow 0 e size v' (n+m) (xs++news)/\Kept (fun k=>v.ownBlock=some k) w w' /\
   (∀ k,v'.ownBlock=some k->v.ownBlock=some k\/w.heap.size<=k):=by
 obtain ⟨v',w',hr,h2,h3,-⟩:=run_append_own (P:=P) w 0 t ty e i z size bytes ht hi hz hsize hby hzs hsz v n xs hown a m c news hl hnews h1 h63 hbytes (Nat.zero_le _)
 refine ⟨v',w',hr,h2,⟨h3.os,h3.tape,h3.output,h3.size,fun k hk hne=>h3.block k hk (fun e=>hne e.symm)⟩,fun k hk=>?_⟩
 have hsmall:n+m<=9223372036854775807:=by simp only [maxLen] at h63;omega
 rcases hown.2 with ⟨rfl,rfl⟩ | ⟨g,cap,cur,rfl,hbg,hg,hnc,hcm,hcs,htake⟩
 ·have hx:xs=[]:=List.eq_nil_of_length_eq_zero (by simpa using hown.1)
  subst hx
  obtain ⟨v1,w1,hr1,h21,-,-⟩:=run_append_own (P:=P) w w.heap.size t ty e i z size bytes ht hi hz hsize hby hzs hsz _ 0 [] (World.ownsRow_nil w _ e size) a m c news hl hnews h1 h63 hbytes (Nat.le_refl _)
  rw [hr] at hr1
  injection hr1 with e1 e2
  subst e1 e2
  exact .inr (h21.lt k hk).1
 ·subst hsize hby
  by_cases hroom:n+m<=cap
  ·have hfit:n * i.size+news.length<=cur.size:=by rw [hl,hcs,<-Nat.add_mul];exact Nat.mul_le_mul_right _ hroom
   have hr1:=run_append_room (P:=P) w t ty e i ht hi g n cap cur hg a m c news hl hnews h1 hroom hfit
   rw [hr] at hr1
   injection hr1 with e1 e2
   subst e1
   exact .inl hk
  ·have holds:∀ j u,xs[j]?=some u->w.cell? ((⟨g,0,none⟩:Addr).add j)=some u:=hown.cells (g:=g) rfl
   have hr1:=run_append_grow (P:=P) w t ty e i z ht hi hz ⟨g,0,none⟩ n cap xs hown.1 holds a m c news hl hnews (by omega) (by omega) (growslice_fits (by omega) hbytes)
   rw [hr] at hr1
   injection hr1 with e1 e2
   subst e1
   simp only [Value.ownBlock,Option.some.injEq] at hk
   exact .inr (by omega)
theorem qfl {P:Program} (w:World) (t u ty e:TypeId) (i:TypeInfo) (ht:P.underlying t=some (.slice e)) (hu:P.underlying u=some .string) (hi:P.info? e=some i) (hz:i.zero=some (.int .u8 0))
  (hsize:i.size=1) (hby:i.bytes=1) (v:Value) (n:Nat) (xs:List Value) (hown:w.ownsRow 0 e 1 v n xs) (s:ByteArray) (hn:n+s.size<=100000000) :
  ∃ v' w',(Builtin.append_ #[t,u] ty #[v,.string s]).run P w=.ok v' w'/\w'.ownsRow 0 e 1 v' (n+s.size) (xs++Lib.strCells s)/\Kept (fun k=>v.ownBlock=some k) w w' /\
   (∀ k,v'.ownBlock=some k->v.ownBlock=some k\/w.heap.size<=k):=by
 have h63:n+s.size<=maxLen:=by unfold maxLen;omega
 obtain ⟨v',w',hr,h2,h3,-⟩:=Lib.run_append_own_string (P:=P) w 0 t u ty e i ht hu hi hz hsize hby v n xs hown s h63 (by omega) (Nat.zero_le _)
 refine ⟨v',w',hr,h2,⟨h3.os,h3.tape,h3.output,h3.size,fun k hk hne=>h3.block k hk (fun e=>hne e.symm)⟩,fun k hk=>?_⟩
 rcases hown.2 with ⟨rfl,rfl⟩ | ⟨g,cap,cur,rfl,hbg,hg,hnc,hcm,hcs,htake⟩
 ·have hx:xs=[]:=List.eq_nil_of_length_eq_zero (by simpa using hown.1)
  subst hx
  obtain ⟨v1,w1,hr1,h21,-,-⟩:=Lib.run_append_own_string (P:=P) w w.heap.size t u ty e i ht hu hi hz hsize hby _ 0 [] (World.ownsRow_nil w _ e 1) s h63 (by omega) (Nat.le_refl _)
  rw [hr] at hr1
  injection hr1 with e1 e2
  subst e1 e2
  exact .inr (h21.lt k hk).1
 ·by_cases hroom:n+s.size<=cap
  ·have hr1:=Lib.run_append_room_string (P:=P) w t u ty e i ht hu hi hsize g n cap cur hg s hroom (by rw [Nat.mul_one] at hcs;omega)
   rw [hr] at hr1
   injection hr1 with e1 e2
   subst e1
   exact .inl hk
  ·have holds:∀ j u,xs[j]?=some u->w.cell? ((⟨g,0,none⟩:Addr).add j)=some u:=hown.cells (g:=g) rfl
   have hr1:=Lib.run_append_grow_string (P:=P) w t u ty e i (.int .u8 0) ht hu hi hz ⟨g,0,none⟩ n cap xs (by rw [hsize];simpa using hown.1) holds s (by omega) (by omega) (by rw [hby];exact growslice_fits (by omega) (by omega))
   rw [hr] at hr1
   injection hr1 with e1 e2
   subst e1
   simp only [Value.ownBlock,Option.some.injEq] at hk
   exact .inr (by omega)
structure Bld (w:World) (b:Nat) (v:Value) (l:List UInt8):Prop where
 head:∃ p,w.heap[b]?=some (.cells #[.pointer p,v] 165 (0,0))/\(p=none\/p=some ⟨b,0,none⟩)
 own:w.ownsRow 0 5 1 v l.length (Lib.byteCells l)
 apart:v.ownBlock≠some b
def Foot (b:Nat) (v:Value) (k:Nat):Prop:=k=b\/v.ownBlock=some k
def za (w:World) (b:Nat) (v:Value) (w':World) (v':Value):Prop:=Kept (Foot b v) w w'/\∀ k,v'.ownBlock=some k->v.ownBlock=some k\/w.heap.size<=k
theorem Bld.lt {w:World} {b:Nat} {v:Value} {l:List UInt8} (h:Bld w b v l):∀ k,Foot b v k->k<w.heap.size:=by
 rintro k (rfl | hk)
 ·obtain ⟨p,hp,-⟩:=h.head
  exact (Array.getElem?_eq_some_iff.1 hp).1
 ·exact (h.own.lt k hk).2
theorem Bld.kept {w w':World} {S:Nat->Prop} {b:Nat} {v:Value} {l:List UInt8} (h:Bld w b v l) (hk:Kept S w w') (hS:∀ k,Foot b v k->¬ S k):Bld w' b v l:=by
 obtain ⟨p,hp,hp2⟩:=h.head
 exact ⟨⟨p,by rw [hk.block b (h.lt b (.inl rfl)) (hS b (.inl rfl))];exact hp,hp2⟩,qh h.own (fun i hi=>hk.block i (h.lt i (.inr hi)) (hS i (.inr hi))),h.apart⟩
theorem Bld.below {w w':World} {b:Nat} {v:Value} {l:List UInt8} (h:Bld w b v l) (hk:Below w.heap.size w w'):Bld w' b v l :=
 h.kept (S:=fun _=>False) (zk hk) (fun _ _ f=>f)
theorem za.refl (w:World) (b:Nat) (v:Value):za w b v w v:=⟨Kept.refl _ _,fun _ h=>.inl h⟩
theorem za.trans {w w1 w2:World} {b:Nat} {v v1 v2:Value} (h:za w b v w1 v1) (k:za w1 b v1 w2 v2):za w b v w2 v2 :=
 ⟨h.1.trans k.1 (fun i hi hf=>by
   rcases hf with hf | hf
   ·exact .inl hf
   ·rcases h.2 i hf with h1 | h1
    ·exact .inr h1
    ·omega),
  fun i hi=>by
   rcases k.2 i hi with h1 | h1
   ·exact h.2 i h1
   ·exact .inr (Nat.le_trans h.1.size h1)⟩
theorem za.of_below {w w':World} {b:Nat} {v:Value} (h:Below w.heap.size w w'):za w b v w' v:=⟨zk h,fun _ h=>.inl h⟩
theorem za.below {w w':World} {b:Nat} {v v':Value} (h:za w b v w' v') {B:Nat} (hB:B<=w.heap.size) (hF:∀ k,Foot b v k->B<=k):Below B w w' :=
 h.1.below hB (fun k hk hf=>by have:=hF k hf;omega)
def qf8 (ts:List Tk) (l:List Int) (r:Bool):Prop:=l.length=9/\(r=true↔∃ l,levF ts=some l/\qaf l)/\(r=true->levF ts=some l)
theorem qf {w w':World} {b:Nat} {o:Obj} (hb:Below w.heap.size w w') (h:w.heap[b]?=some o):w'.heap[b]?=some o:=by
 rw [hb.block b (Array.getElem?_eq_some_iff.1 h).1];exact h
structure LevM (ts:List Tk) (w wr:World) (k:Nat) (l:List Int):Prop where
 lev:levF (ts.take k)=some l
 res:wr.heap[w.heap.size]?=some (.cells (ar9 jl) 129 (0,0))
 arr:wr.heap[w.heap.size+1]?=some (.cells (ar9 l) 129 (0,0))
 bel:Below w.heap.size w wr
theorem qt (w:World) (o:Obj):(w.alloc o).heap.size=w.heap.size+1:=by simp
theorem LevM.step {ts:List Tk} {w wr wr':World} {k:Nat} {l:List Int} (h:LevM ts w wr k l) (hb:Below wr.heap.size wr wr'):LevM ts w wr' k l :=
 ⟨h.lev,qf hb h.res,qf hb h.arr,qd h.bel hb⟩
theorem LevM.drew {ts:List Tk} {w wr:World} {k:Nat} {l:List Int} (h:LevM ts w wr k l):LevM ts w wr.drew k l:=⟨h.lev,h.res,h.arr,h.bel.drew⟩
theorem LevM.cell {ts:List Tk} {w wr:World} {k:Nat} {l:List Int} (h:LevM ts w wr k l) {m:Nat} (hm:m<9):wr.cell? ⟨w.heap.size+1,m,none⟩=some (.int .i64 ((l[m]?).getD 0)):=by
 rw [qe h.arr];exact qf7 (yj h.lev) hm
theorem ql2 (l:List Int) (m:Nat) (a:Int):(ar9 l).setIfInBounds m (.int .i64 a)=ar9 (l.set m a):=by
 unfold ar9
 rw [List.setIfInBounds_toArray,List.map_set]
theorem LevM.put {ts:List Tk} {w wr:World} {k k' m:Nat} {l:List Int} {a:Int} (h:LevM ts w wr k l) (hl:levF (ts.take k')=some (l.set m a)):LevM ts w (wr.setCell ⟨w.heap.size+1,m,none⟩ (.int .i64 a)) k' (l.set m a):=by
 refine ⟨hl,?_,?_,h.bel.setCell (p:=⟨w.heap.size+1,m,none⟩) (Nat.le_succ _) _⟩
 ·rw [Below.heap_setCell _ _ _ _ (by simp)];exact h.res
 ·rw [setCell_eq_setRow wr (w.heap.size+1) m _ 129 (0,0) _ h.arr,ql2]
  exact setRow_heap _ _ _ _ 129 _ h.arr
theorem qar (ts:List Tk) (ao:Option Addr) (n cap:Nat) (w:World) (hr:Row w 3 ao n cap (tokC ts)) (hn:n=ts.length) (hnn:n<=1000) :
  Calls Tryz.prog 104 #[.slice ao n cap] w fun e w'=>∃ (l:List Int) (r:Int),e=.returned (.tuple #[.agg (ar9 l),.bool (decide (r=1))])/\qf8 ts l (decide (r=1))/\Below w.heap.size w w':=by
 have HN:Hid (n=ts.length):=hn
 have HR:Hid (Row w 3 ao n cap (tokC ts)):=hr
 have hle:=hr.le
 have hmx:cap<=9223372036854775807:=by have:=hr.max;unfold maxLen at this;omega
 clear hr hn
 go_enter Tryz.func104,Tryz.ntmps104
 go_wp2
 go_loopg [9] n (fun kx s9 wr=>∃ k:Nat,s9=.int .i64 k/\k<=n/\n - k<=kx/\Hid (∃ l,LevM ts w wr k l))
 case atStart=>exact ⟨0,rfl,Nat.zero_le _,by omega,(⟨jl,rfl,qf (qb _ _) (heap_alloc_new _ _),by have:=heap_alloc_new (w.alloc (.cells (ar9 jl) 129)) (.cells (ar9 jl) 129);rw [qt] at this;exact this,qd (qb _ _) (qb _ _)⟩:∃ l,LevM ts w _ 0 l)⟩
 case round =>
  obtain ⟨k,rfl,hk,hg,J⟩:=hrel
  obtain ⟨l,JJ⟩:=J.out
  have JM:Hid (LevM ts w wr k l):=JJ
  have hl9:=yj JJ.lev
  clear J JJ
  by_cases hlt:k<n
  ·obtain ⟨t,ht⟩:∃ t,ts[k]?=some t:=⟨ts[k]'(by rw [<-HN.out];exact hlt),List.getElem?_eq_getElem _⟩
   obtain ⟨b,o,rfl,c0,c1,c2⟩:=ja (HR.out.below JM.out.bel) ht
   have HT:Hid (ts[k]?=some t):=ht
   obtain ⟨tn,tl,ta⟩:=t
   simp only at c0 c1 c2
   clear ht
   go_upto_region 5 with fail
   have HQ:Hid (LevM ts w (wr.alloc (.cells #[.string tn,.int .i64 tl,.int .i64 ta] 58)) k l):=JM.out.step (qb _ _)
   have d0:(wr.alloc (.cells #[.string tn,.int .i64 tl,.int .i64 ta] 58)).cell? ⟨wr.heap.size,0,none⟩=some (.string tn):=by rw [World.cell?_alloc_mark];rfl
   have d1:(wr.alloc (.cells #[.string tn,.int .i64 tl,.int .i64 ta] 58)).cell? ⟨wr.heap.size,1,none⟩=some (.int .i64 tl):=by rw [World.cell?_alloc_mark];rfl
   have d2:(wr.alloc (.cells #[.string tn,.int .i64 tl,.int .i64 ta] 58)).cell? ⟨wr.heap.size,2,none⟩=some (.int .i64 ta):=by rw [World.cell?_alloc_mark];rfl
   generalize wr.alloc (.cells #[.string tn,.int .i64 tl,.int .i64 ta] 58)=wq at HQ d0 d1 d2 ⊢
   generalize wr.heap.size=tb at d0 d1 d2 ⊢
   have HC:Hid (∀ W:World,Calls Tryz.prog 116 #[.agg #[.string tn,.int .i64 tl,.int .i64 ta]] W fun e w'=>e=.returned (.bool (levB ⟨tn,tl,ta⟩))/\Below W.heap.size W w'):=fun W=>qhb ⟨tn,tl,ta⟩ W
   clear c0 c1 c2 JM
   have g0:=kh d0
   have g1:=kh d1
   have g2:=kh d2
   by_cases hP:LevP ⟨tn,tl,ta⟩
   ·have hd:levB ⟨tn,tl,ta⟩=true:=qaq.2 hP
    rw [hd] at HC
    obtain ⟨m,hm⟩:∃ m:Nat,tl=m:=⟨tl.toNat,by rcases hP with h | h <;> (simp only at h;omega)⟩
    subst hm
    have hm9:m<9:=by rcases hP with h | h <;> (simp only at h;omega)
    have hx:=HQ.out.cell hm9
    have gx:=kh hx
    have HLS:Hid (levF (ts.take (k+1))=if (l[m]?).getD 0=0\/(l[m]?).getD 0=ta then some (l.set m ta) else none):=by
     show _=_
     rw [zn HT.out,qcd,HQ.out.lev]
     unfold levS at9
     simp [hP]
    generalize (l[m]?).getD 0=x at hx gx HLS
    clear hP hd
    by_cases hx0:x=0
    ·have hx1:(x != 0)=false:=by simpa using hx0
     have HL2:Hid (levF (ts.take (k+1))=some (l.set m ta)):=by have:=HLS.out;rwa [if_pos (.inl hx0)] at this
     clear HLS hx0
     refine zv (by kernel_rfl) ?_
     repeat (go_big_quiet_step (first | (go_at_call 116;exact j5 (HC.out _))))
     refine wpQuiet_nil ?_
     intro _ hwq
     obtain ⟨⟨nq,osq⟩,hwe⟩:=hwq
     subst hwe
     have HQ2:Hid (LevM ts w (onto wq nq osq) k l):=HQ.out.step (ke _ _ _)
     have d1:=g1 nq osq
     have d2:=g2 nq osq
     have hx:=gx nq osq
     simp only
     generalize onto wq nq osq=wz at HQ2 d1 d2 hx ⊢
     clear g0 g1 g2 d0 HC HQ gx
     have fx:wz.frozen? ⟨w.heap.size+1,m,none⟩=false:=qi HQ2.out.arr m
     go_wp2
     go_roundg (n - (k+1))
     case measure=>omega
     case rel=>exact ⟨k+1,by simp,by omega,Nat.le_refl _,(⟨l.set m ta,HQ2.out.put HL2.out⟩:∃ l,LevM ts w _ (k+1) l)⟩
    ·have hx1:(x != 0)=true:=by simpa using hx0
     by_cases hxa:x=ta
     ·have hx2:(x != ta)=false:=by simpa using hxa
      have HL2:Hid (levF (ts.take (k+1))=some (l.set m ta)):=by have:=HLS.out;rwa [if_pos (.inr hxa)] at this
      clear HLS hx0 hxa
      refine zv (by kernel_rfl) ?_
      repeat (go_big_quiet_step (first | (go_at_call 116;exact j5 (HC.out _))))
      refine wpQuiet_nil ?_
      intro _ hwq
      obtain ⟨⟨nq,osq⟩,hwe⟩:=hwq
      subst hwe
      have HQ2:Hid (LevM ts w (onto wq nq osq) k l):=HQ.out.step (ke _ _ _)
      have d1:=g1 nq osq
      have d2:=g2 nq osq
      have hx:=gx nq osq
      simp only
      generalize onto wq nq osq=wz at HQ2 d1 d2 hx ⊢
      clear g0 g1 g2 d0 HC HQ gx
      have fx:wz.frozen? ⟨w.heap.size+1,m,none⟩=false:=qi HQ2.out.arr m
      go_wp2
      go_roundg (n - (k+1))
      case measure=>omega
      case rel=>exact ⟨k+1,by simp,by omega,Nat.le_refl _,(⟨l.set m ta,HQ2.out.put HL2.out⟩:∃ l,LevM ts w _ (k+1) l)⟩
     ·have hx2:(x != ta)=true:=by simpa using hxa
      have HF:Hid (levF ts=none):=qc8 (k:=k+1) (by have:=HLS.out;rwa [if_neg (fun h=>h.elim hx0 hxa)] at this)
      clear HLS hx0 hxa
      refine zv (by kernel_rfl) ?_
      repeat (go_big_quiet_step (first | (go_at_call 116;exact j5 (HC.out _))))
      refine wpQuiet_nil ?_
      intro _ hwq
      obtain ⟨⟨nq,osq⟩,hwe⟩:=hwq
      subst hwe
      have HQ2:Hid (LevM ts w (onto wq nq osq) k l):=HQ.out.step (ke _ _ _)
      simp only
      generalize onto wq nq osq=wz at HQ2 ⊢
      clear g0 g1 g2 d0 d1 d2 HC HQ gx hx
      have rc:∀ j,wz.frozen? ⟨w.heap.size,j,none⟩=false:=qi HQ2.out.res
      have r0:wz.cell? ⟨w.heap.size,0,none⟩=some (.int .i64 0):=qe HQ2.out.res 0
      have r1:wz.cell? ⟨w.heap.size,1,none⟩=some (.int .i64 0):=qe HQ2.out.res 1
      have r2:wz.cell? ⟨w.heap.size,2,none⟩=some (.int .i64 0):=qe HQ2.out.res 2
      have r3:wz.cell? ⟨w.heap.size,3,none⟩=some (.int .i64 0):=qe HQ2.out.res 3
      have r4:wz.cell? ⟨w.heap.size,4,none⟩=some (.int .i64 0):=qe HQ2.out.res 4
      have r5:wz.cell? ⟨w.heap.size,5,none⟩=some (.int .i64 0):=qe HQ2.out.res 5
      have r6:wz.cell? ⟨w.heap.size,6,none⟩=some (.int .i64 0):=qe HQ2.out.res 6
      have r7:wz.cell? ⟨w.heap.size,7,none⟩=some (.int .i64 0):=qe HQ2.out.res 7
      have r8:wz.cell? ⟨w.heap.size,8,none⟩=some (.int .i64 0):=qe HQ2.out.res 8
      go_wp2
      have HBz:Hid (Below w.heap.size w wz):=HQ2.out.bel
      refine bodyPost_ret (v:=.tuple #[.agg (ar9 jl),.bool false]) (by simp [results,Tryz.results104,go_sem,r0,r1,r2,r3,r4,r5,r6,r7,r8,ar9,jl]) rfl ?_
      refine ⟨jl,0,rfl,⟨rfl,⟨fun h=>(by cases h),fun ⟨l',h,_⟩=>(by rw [HF.out] at h;cases h)⟩,fun h=>(by cases h)⟩,?_⟩
      exact (((((((((HBz.out.setCell (p:=⟨w.heap.size,0,none⟩) (Nat.le_refl _) _).setCell (p:=⟨w.heap.size,1,none⟩) (Nat.le_refl _) _).setCell (p:=⟨w.heap.size,2,none⟩) (Nat.le_refl _) _).setCell (p:=⟨w.heap.size,3,none⟩) (Nat.le_refl _) _).setCell (p:=⟨w.heap.size,4,none⟩) (Nat.le_refl _) _).setCell (p:=⟨w.heap.size,5,none⟩) (Nat.le_refl _) _).setCell (p:=⟨w.heap.size,6,none⟩) (Nat.le_refl _) _).setCell (p:=⟨w.heap.size,7,none⟩) (Nat.le_refl _) _).setCell (p:=⟨w.heap.size,8,none⟩) (Nat.le_refl _) _)
   ·have hd:levB ⟨tn,tl,ta⟩=false:=qpa hP
    rw [hd] at HC
    have HF:Hid (levF ts=none):=qc8 (k:=k+1) (by rw [zn HT.out,qcd,HQ.out.lev];unfold levS;simp [hP])
    clear hP hd
    refine zv (by kernel_rfl) ?_
    repeat (go_big_quiet_step (first | (go_at_call 116;exact j5 (HC.out _))))
    refine wpQuiet_nil ?_
    intro _ hwq
    obtain ⟨⟨nq,osq⟩,hwe⟩:=hwq
    subst hwe
    have HQ2:Hid (LevM ts w (onto wq nq osq) k l):=HQ.out.step (ke _ _ _)
    simp only
    generalize onto wq nq osq=wz at HQ2 ⊢
    clear g0 g1 g2 d0 d1 d2 HC HQ
    have rc:∀ j,wz.frozen? ⟨w.heap.size,j,none⟩=false:=qi HQ2.out.res
    have r0:wz.cell? ⟨w.heap.size,0,none⟩=some (.int .i64 0):=qe HQ2.out.res 0
    have r1:wz.cell? ⟨w.heap.size,1,none⟩=some (.int .i64 0):=qe HQ2.out.res 1
    have r2:wz.cell? ⟨w.heap.size,2,none⟩=some (.int .i64 0):=qe HQ2.out.res 2
    have r3:wz.cell? ⟨w.heap.size,3,none⟩=some (.int .i64 0):=qe HQ2.out.res 3
    have r4:wz.cell? ⟨w.heap.size,4,none⟩=some (.int .i64 0):=qe HQ2.out.res 4
    have r5:wz.cell? ⟨w.heap.size,5,none⟩=some (.int .i64 0):=qe HQ2.out.res 5
    have r6:wz.cell? ⟨w.heap.size,6,none⟩=some (.int .i64 0):=qe HQ2.out.res 6
    have r7:wz.cell? ⟨w.heap.size,7,none⟩=some (.int .i64 0):=qe HQ2.out.res 7
    have r8:wz.cell? ⟨w.heap.size,8,none⟩=some (.int .i64 0):=qe HQ2.out.res 8
    go_wp2
    have HBz:Hid (Below w.heap.size w wz):=HQ2.out.bel
    refine bodyPost_ret (v:=.tuple #[.agg (ar9 jl),.bool false]) (by simp [results,Tryz.results104,go_sem,r0,r1,r2,r3,r4,r5,r6,r7,r8,ar9,jl]) rfl ?_
    refine ⟨jl,0,rfl,⟨rfl,⟨fun h=>(by cases h),fun ⟨l',h,_⟩=>(by rw [HF.out] at h;cases h)⟩,fun h=>(by cases h)⟩,?_⟩
    exact (((((((((HBz.out.setCell (p:=⟨w.heap.size,0,none⟩) (Nat.le_refl _) _).setCell (p:=⟨w.heap.size,1,none⟩) (Nat.le_refl _) _).setCell (p:=⟨w.heap.size,2,none⟩) (Nat.le_refl _) _).setCell (p:=⟨w.heap.size,3,none⟩) (Nat.le_refl _) _).setCell (p:=⟨w.heap.size,4,none⟩) (Nat.le_refl _) _).setCell (p:=⟨w.heap.size,5,none⟩) (Nat.le_refl _) _).setCell (p:=⟨w.heap.size,6,none⟩) (Nat.le_refl _) _).setCell (p:=⟨w.heap.size,7,none⟩) (Nat.le_refl _) _).setCell (p:=⟨w.heap.size,8,none⟩) (Nat.le_refl _) _)
  ·obtain rfl:k=n:=by omega
   have HLF:Hid (levF ts=some l):=by have:=JM.out.lev;rwa [HN.out,List.take_length] at this
   obtain ⟨r,hr⟩:=zr (¬ qaf l)
   have HC:Hid (∀ W:World,Calls Tryz.prog 117 #[.agg (ar9 l)] W fun e w'=>e=.returned (.bool r)/\Below W.heap.size W w'):=fun W=>qnu l hl9 r hr W
   have HO:Hid (qf8 ts l (!r)):=⟨hl9,⟨fun h=>⟨l,HLF.out,(by rcases Classical.em (qaf l) with h1 | h1;exact h1;rw [ky hr h1] at h;cases h)⟩,fun ⟨l',h1,h2⟩=>(by rw [HLF.out] at h1;cases h1;rw [zb hr (fun h=>h h2)];rfl)⟩,fun _=>HLF.out⟩
   clear hr HLF
   go_upto_region 9 with fail
   obtain ⟨xa,xb,xc,xd,xe,xf,xg,xi,xj,rfl⟩:=nine hl9
   have hA:ar9 [xa,xb,xc,xd,xe,xf,xg,xi,xj]=#[.int .i64 xa,.int .i64 xb,.int .i64 xc,.int .i64 xd,.int .i64 xe,.int .i64 xf,.int .i64 xg,.int .i64 xi,.int .i64 xj]:=rfl
   rw [hA] at HC
   have rz:∀ j,wr.frozen? ⟨w.heap.size,j,none⟩=false:=qi JM.out.res
   have r0:wr.cell? ⟨w.heap.size,0,none⟩=some (.int .i64 0):=qe JM.out.res 0
   have q0:wr.cell? ⟨w.heap.size+1,0,none⟩=some (.int .i64 xa):=qe JM.out.arr 0
   have r1:wr.cell? ⟨w.heap.size,1,none⟩=some (.int .i64 0):=qe JM.out.res 1
   have q1:wr.cell? ⟨w.heap.size+1,1,none⟩=some (.int .i64 xb):=qe JM.out.arr 1
   have r2:wr.cell? ⟨w.heap.size,2,none⟩=some (.int .i64 0):=qe JM.out.res 2
   have q2:wr.cell? ⟨w.heap.size+1,2,none⟩=some (.int .i64 xc):=qe JM.out.arr 2
   have r3:wr.cell? ⟨w.heap.size,3,none⟩=some (.int .i64 0):=qe JM.out.res 3
   have q3:wr.cell? ⟨w.heap.size+1,3,none⟩=some (.int .i64 xd):=qe JM.out.arr 3
   have r4:wr.cell? ⟨w.heap.size,4,none⟩=some (.int .i64 0):=qe JM.out.res 4
   have q4:wr.cell? ⟨w.heap.size+1,4,none⟩=some (.int .i64 xe):=qe JM.out.arr 4
   have r5:wr.cell? ⟨w.heap.size,5,none⟩=some (.int .i64 0):=qe JM.out.res 5
   have q5:wr.cell? ⟨w.heap.size+1,5,none⟩=some (.int .i64 xf):=qe JM.out.arr 5
   have r6:wr.cell? ⟨w.heap.size,6,none⟩=some (.int .i64 0):=qe JM.out.res 6
   have q6:wr.cell? ⟨w.heap.size+1,6,none⟩=some (.int .i64 xg):=qe JM.out.arr 6
   have r7:wr.cell? ⟨w.heap.size,7,none⟩=some (.int .i64 0):=qe JM.out.res 7
   have q7:wr.cell? ⟨w.heap.size+1,7,none⟩=some (.int .i64 xi):=qe JM.out.arr 7
   have r8:wr.cell? ⟨w.heap.size,8,none⟩=some (.int .i64 0):=qe JM.out.res 8
   have q8:wr.cell? ⟨w.heap.size+1,8,none⟩=some (.int .i64 xj):=qe JM.out.arr 8
   clear hl9 HR hA
   go_region_with (go_at_call 117;refine (HC.out _).mono ?_;rintro e w9 ⟨rfl,hB⟩;have HM:Hid (LevM ts w w9 k [xa,xb,xc,xd,xe,xf,xg,xi,xj]):=JM.out.drew.step hB;clear hB;have rz:∀ j,w9.frozen? ⟨w.heap.size,j,none⟩=false:=qi HM.out.res;have r0:w9.cell? ⟨w.heap.size,0,none⟩=some (.int .i64 0):=qe HM.out.res 0;have q0:w9.cell? ⟨w.heap.size+1,0,none⟩=some (.int .i64 xa):=qe HM.out.arr 0;have r1:w9.cell? ⟨w.heap.size,1,none⟩=some (.int .i64 0):=qe HM.out.res 1;have q1:w9.cell? ⟨w.heap.size+1,1,none⟩=some (.int .i64 xb):=qe HM.out.arr 1;have r2:w9.cell? ⟨w.heap.size,2,none⟩=some (.int .i64 0):=qe HM.out.res 2;have q2:w9.cell? ⟨w.heap.size+1,2,none⟩=some (.int .i64 xc):=qe HM.out.arr 2;have r3:w9.cell? ⟨w.heap.size,3,none⟩=some (.int .i64 0):=qe HM.out.res 3;have q3:w9.cell? ⟨w.heap.size+1,3,none⟩=some (.int .i64 xd):=qe HM.out.arr 3;have r4:w9.cell? ⟨w.heap.size,4,none⟩=some (.int .i64 0):=qe HM.out.res 4;have q4:w9.cell? ⟨w.heap.size+1,4,none⟩=some (.int .i64 xe):=qe HM.out.arr 4;have r5:w9.cell? ⟨w.heap.size,5,none⟩=some (.int .i64 0):=qe HM.out.res 5;have q5:w9.cell? ⟨w.heap.size+1,5,none⟩=some (.int .i64 xf):=qe HM.out.arr 5;have r6:w9.cell? ⟨w.heap.size,6,none⟩=some (.int .i64 0):=qe HM.out.res 6;have q6:w9.cell? ⟨w.heap.size+1,6,none⟩=some (.int .i64 xg):=qe HM.out.arr 6;have r7:w9.cell? ⟨w.heap.size,7,none⟩=some (.int .i64 0):=qe HM.out.res 7;have q7:w9.cell? ⟨w.heap.size+1,7,none⟩=some (.int .i64 xi):=qe HM.out.arr 7;have r8:w9.cell? ⟨w.heap.size,8,none⟩=some (.int .i64 0):=qe HM.out.res 8;have q8:w9.cell? ⟨w.heap.size+1,8,none⟩=some (.int .i64 xj):=qe HM.out.arr 8)
   all_goals
    obtain ⟨ri,HI⟩:∃ ri:Int,Hid (decide (ri=1)=!r):=by
     cases r
     ·exact ⟨1,rfl⟩
     ·exact ⟨0,rfl⟩
    have HBz:Hid (Below w.heap.size w w9):=HM.out.bel
    go_wp2
    refine bodyPost_ret (v:=.tuple #[.agg (ar9 [xa,xb,xc,xd,xe,xf,xg,xi,xj]),.bool (!r)]) (by simp [results,Tryz.results104,go_sem,r0,r1,r2,r3,r4,r5,r6,r7,r8,ar9]) rfl ?_
    exact ⟨[xa,xb,xc,xd,xe,xf,xg,xi,xj],ri,by rw [HI.out],by rw [HI.out];exact HO.out,(((((((((HBz.out.setCell (p:=⟨w.heap.size,0,none⟩) (Nat.le_refl _) _).setCell (p:=⟨w.heap.size,1,none⟩) (Nat.le_refl _) _).setCell (p:=⟨w.heap.size,2,none⟩) (Nat.le_refl _) _).setCell (p:=⟨w.heap.size,3,none⟩) (Nat.le_refl _) _).setCell (p:=⟨w.heap.size,4,none⟩) (Nat.le_refl _) _).setCell (p:=⟨w.heap.size,5,none⟩) (Nat.le_refl _) _).setCell (p:=⟨w.heap.size,6,none⟩) (Nat.le_refl _) _).setCell (p:=⟨w.heap.size,7,none⟩) (Nat.le_refl _) _).setCell (p:=⟨w.heap.size,8,none⟩) (Nat.le_refl _) _)⟩
def wdC (ws:List Wd):List Value:=ws.flatMap fun x=>[.int .i64 x.k,.string x.t,.int .i64 x.a]
def rtC (ts:List (Tk × Bool)):List Value:=ts.flatMap fun x=>[.string x.1.n,.int .i64 x.1.l,.int .i64 x.1.a,.bool x.2]
structure RHd where
 wb:Nat
 wo:Nat
 wc:Nat
 ta:Option Addr
 tc:Nat
 ra:Option Addr
 rc:Nat
def rdC (h:RHd) (S:St):Array Value:=#[.slice (some ⟨h.wb,h.wo,none⟩) S.ws.length h.wc,.slice h.ta S.ts.length h.tc,.int .i64 S.lv,.string S.st,.bool S.ed,.int .i64 S.ex,.slice h.ra S.rs.length h.rc]
def OwnT (w:World) (base:Nat) (v:Value) (l:List ByteArray):Prop:=w.ownsRow base 9 1 v l.length (strC l)
structure RD (w W:World) (rb:Nat) (h:RHd) (S:St) (qs:List (Ru × Option Addr × Nat)):Prop where
 box:W.heap[rb]?=some (.cells (rdC h S) 139 (0,0))
 wds:Row w 3 (some ⟨h.wb,h.wo,none⟩) S.ws.length h.wc (wdC S.ws)
 tok:W.ownsRow w.heap.size 153 4 (.slice h.ta S.ts.length h.tc) S.ts.length (rtC (S.ts.zip S.ls))
 rul:W.ownsRow w.heap.size 55 3 (.slice h.ra S.rs.length h.rc) S.rs.length (rulC qs)
 map:qs.map (·.1)=S.rs
 row:∀ q∈qs,OwnT W w.heap.size (.slice q.2.1 q.1.r.length q.2.2) q.1.r
 bel:Below w.heap.size w W
 new:w.heap.size<=rb
 ok:StOk S
theorem OwnT.below {w w':World} {base:Nat} {v:Value} {l:List ByteArray} (o:OwnT w base v l) (hb:Below w.heap.size w w'):OwnT w' base v l :=
 qh o (fun i hi=>hb.block i (World.ownsRow.lt o i hi).2)
theorem RD.step {w W W':World} {rb:Nat} {h:RHd} {S:St} {qs:List (Ru × Option Addr × Nat)} (r:RD w W rb h S qs) (hb:Below W.heap.size W W'):RD w W' rb h S qs :=
 ⟨qf hb r.box,r.wds,qh r.tok (fun i hi=>hb.block i (World.ownsRow.lt r.tok i hi).2),qh r.rul (fun i hi=>hb.block i (World.ownsRow.lt r.rul i hi).2),r.map,fun q hq=>(r.row q hq).below hb,qd r.bel hb,r.new,r.ok⟩
def wv (w:Wd):Value:=.agg #[.int .i64 w.k,.string w.t,.int .i64 w.a]
def fv (f:Flt):Value:=.agg #[.int .i64 f.1,.int .i64 f.2]
theorem RD.head {w W:World} {rb:Nat} {h:RHd} {S:St} {qs:List (Ru × Option Addr × Nat)} (r:RD w W rb h S qs) :
  W.cell? ⟨h.wb,h.wo,none⟩=some (.int .i64 S.hd.k)/\W.cell? ⟨h.wb,h.wo+1,none⟩=some (.string S.hd.t)/\W.cell? ⟨h.wb,h.wo+2,none⟩=some (.int .i64 S.hd.a):=by
 obtain ⟨x,hx⟩:=r.ok.ends.head
 have hw:=r.wds.below r.bel
 obtain ⟨b,o,he,hc⟩:=hw.at (by have:=r.ok.ends.pos;omega)
 cases he
 have e:wdC S.ws=[.int .i64 S.hd.k,.string S.hd.t,.int .i64 S.hd.a]++wdC x:=by
  conv=>lhs;rw [hx]
  rfl
 rw [e] at hc
 exact ⟨hc 0 _ rfl,hc 1 _ rfl,hc 2 _ rfl⟩
theorem RD.lens {w W:World} {rb:Nat} {h:RHd} {S:St} {qs:List (Ru × Option Addr × Nat)} (r:RD w W rb h S qs):1<=S.ws.length/\S.ws.length<=h.wc/\h.wc<=9223372036854775807:=by
 have h1:=r.wds.le
 have h2:=r.wds.max
 have h3:=r.ok.ends.pos
 unfold maxLen at h2
 omega
theorem kp (w W:World) (rb:Nat) (h:RHd) (S:St) (qs:List (Ru × Option Addr × Nat)) (r:RD w W rb h S qs) :
  Calls Tryz.prog 123 #[.pointer (some ⟨rb,0,none⟩)] W fun e W'=>e=.returned (wv S.hd)/\Below W.heap.size W W':=by
 obtain ⟨c0,c1,c2⟩:=r.head
 obtain ⟨l1,l2,l3⟩:=r.lens
 have b0:W.cell? ⟨rb,0,none⟩=some (.slice (some ⟨h.wb,h.wo,none⟩) S.ws.length h.wc):=by rw [qe r.box];rfl
 obtain ⟨wb,wo,wc,ta,tc,ra,rc⟩:=h
 simp only at c0 c1 c2 l1 l2 l3 b0
 generalize S.hd=x at *
 obtain ⟨xk,xt,xa⟩:=x
 simp only at c0 c1 c2
 unfold wv
 simp only
 generalize S.ws.length=n at *
 have c0':=qo c0
 have c1':=qo c1
 have c2':=qo c2
 have b0':=qo b0
 clear r c0 c1 c2 b0
 have l1':(0:Int)<(n:Int):=by omega
 go_enter Tryz.func123,Tryz.ntmps123
 go_wp2_with fail
 refine bodyPost_ret (v:=.agg #[.int .i64 xk,.string xt,.int .i64 xa]) (by simp [results,Tryz.results123,go_sem, *]) rfl ?_
 exact ⟨rfl,qb _ _⟩
theorem RD.next {w W:World} {rb:Nat} {h:RHd} {S:St} {qs:List (Ru × Option Addr × Nat)} (r:RD w W rb h S qs) (he:Ends S.ws.tail) :
  RD w (W.setCell ⟨rb,0,none⟩ (.slice (some ⟨h.wb,h.wo+3,none⟩) (S.ws.length - 1) (h.wc - 1))) rb ⟨h.wb,h.wo+3,h.wc - 1,h.ta,h.tc,h.ra,h.rc⟩ S.next qs:=by
 have hl:=j4 r.ok
 have hn:S.next.ws.length=S.ws.length - 1:=by omega
 obtain ⟨l1,l2,l3⟩:=r.lens
 have apart:∀ {E k n:Nat} {v:Value} {cs:List Value},W.ownsRow w.heap.size E k v n cs->E≠139->(W.setCell ⟨rb,0,none⟩ (.slice (some ⟨h.wb,h.wo+3,none⟩) (S.ws.length - 1) (h.wc - 1))).ownsRow w.heap.size E k v n cs:=by
  intro E k n v cs ho hE
  refine qh ho (fun i hi=>Below.heap_setCell _ _ _ _ (fun e=>?_))
  simp only at e
  subst e
  rcases ho.2 with ⟨rfl,-⟩ | ⟨g,c,cur,rfl,-,hh,-⟩
  ·cases hi
  ·simp only [Value.ownBlock,Option.some.injEq] at hi
   subst hi
   rw [r.box] at hh
   simp only [Option.some.injEq,Obj.cells.injEq] at hh
   exact hE hh.2.1.symm
 refine ⟨?_,?_,apart r.tok (by decide),apart r.rul (by decide),r.map,fun q hq=>apart (r.row q hq) (by decide),r.bel.setCell (p:=⟨rb,0,none⟩) r.new _,r.new,r.ok.next he⟩
 ·rw [setCell_eq_setRow W rb 0 _ 139 (0,0) _ r.box]
  have e:(rdC h S).setIfInBounds 0 (.slice (some ⟨h.wb,h.wo+3,none⟩) (S.ws.length - 1) (h.wc - 1))=rdC ⟨h.wb,h.wo+3,h.wc - 1,h.ta,h.tc,h.ra,h.rc⟩ S.next:=by
   unfold rdC
   rw [hn]
   rfl
  rw [e]
  exact setRow_heap _ _ _ _ 139 _ r.box
 ·obtain ⟨x,hx⟩:=r.ok.ends.head
  have hlen:=r.wds.len
  have hx2:S.next.ws=x:=by show S.ws.tail=x;rw [hx];rfl
  have hxl:S.ws.length=x.length+1:=by rw [hx];rfl
  refine ⟨?_,?_,?_,?_⟩
  ·rw [hx2]
   unfold wdC
   rw [qah _ (fun _=>rfl)]
  ·simp only
   omega
  ·simp only
   unfold maxLen
   omega
  ·refine .inr ⟨h.wb,h.wo+3,rfl,fun j u hu=>?_⟩
   obtain ⟨b,o,hb,hc⟩:=r.wds.at (by omega)
   cases hb
   rw [show h.wo+3+j=h.wo+(3+j) by omega]
   refine hc (3+j) u ?_
   rw [hx2] at hu
   have e:wdC S.ws=[.int .i64 S.hd.k,.string S.hd.t,.int .i64 S.hd.a]++wdC x:=by
    conv=>lhs;rw [hx]
    rfl
   rw [e,List.getElem?_append_right (by simp)]
   simpa using hu
theorem qb1 (w W:World) (rb:Nat) (h:RHd) (S:St) (qs:List (Ru × Option Addr × Nat)) (r:RD w W rb h S qs) (he:Ends S.ws.tail) :
  Calls Tryz.prog 136 #[.pointer (some ⟨rb,0,none⟩)] W fun e W'=>e=.returned (.tuple #[])/\W'=W.setCell ⟨rb,0,none⟩ (.slice (some ⟨h.wb,h.wo+3,none⟩) (S.ws.length - 1) (h.wc - 1)):=by
 obtain ⟨l1,l2,l3⟩:=r.lens
 have l4:2<=S.ws.length:=by
  have h1:=j4 r.ok
  have h2:=he.pos
  have h3:S.next.ws.length=S.ws.tail.length:=rfl
  omega
 have b0:W.cell? ⟨rb,0,none⟩=some (.slice (some ⟨h.wb,h.wo,none⟩) S.ws.length h.wc):=by rw [qe r.box];rfl
 have f0:W.frozen? ⟨rb,0,none⟩=false:=qi r.box 0
 obtain ⟨wb,wo,wc,ta,tc,ra,rc⟩:=h
 simp only at l1 l2 l3 b0
 simp only
 generalize S.ws.length=n at *
 clear r he
 have l1':(1:Int)<=(n:Int):=by omega
 have l2':(n:Int)<=(wc:Int):=by omega
 have l5:wc≠1:=by omega
 go_enter Tryz.func136,Tryz.ntmps136
 go_wp2_with fail
 go_end0
 exact ⟨rfl,rfl⟩
def One (rb:Nat) (k:Nat):Prop:=k=rb
def Went (w W:World) (rb:Nat) (S:St) (qs:List (Ru × Option Addr × Nat)) (W':World):Prop:=(∃ h,RD w W' rb h S qs/\∀ h0 S0,RD w W rb h0 S0 qs->h.ta=h0.ta/\h.ra=h0.ra)/\Kept (One rb) W W'
theorem Went.rd {w W W':World} {rb:Nat} {S:St} {qs:List (Ru × Option Addr × Nat)} (r:Went w W rb S qs W'):∃ h,RD w W' rb h S qs:=by
 obtain ⟨⟨h,r,-⟩,-⟩:=r
 exact ⟨h,r⟩
theorem qcw {w W:World} {rb:Nat} {h h0:RHd} {S S0:St} {qs qs0:List (Ru × Option Addr × Nat)} (r:RD w W rb h S qs) (r0:RD w W rb h0 S0 qs0):h.ta=h0.ta/\h.ra=h0.ra:=by
 have e:=r.box.symm.trans r0.box
 simp only [Option.some.injEq,Obj.cells.injEq] at e
 have e1:=congrArg (fun a:Array Value=>a[1]?) e.1
 have e6:=congrArg (fun a:Array Value=>a[6]?) e.1
 simp [rdC] at e1 e6
 exact ⟨e1.1,e6.1⟩
theorem Went.stay {w W W':World} {rb:Nat} {h:RHd} {S:St} {qs:List (Ru × Option Addr × Nat)} (r:RD w W rb h S qs) (hb:Below W.heap.size W W'):Went w W rb S qs W':=⟨⟨h,r.step hb,fun _ _ r0=>qcw r r0⟩,zk hb⟩
def Loc (W:World) (b T:Nat):Prop:=∃ c,W.heap[b]?=some (.cells c T (0,0))
theorem Loc.set {W:World} {b T:Nat} (h:Loc W b T) (b' j:Nat) (u:Value):Loc (W.setCell ⟨b',j,none⟩ u) b T:=by
 obtain ⟨c,hc⟩:=h
 by_cases e:b=b'
 ·subst e
  exact ⟨_,by rw [setCell_eq_setRow W b j _ T (0,0) _ hc];exact setRow_heap _ _ _ _ T _ hc⟩
 ·exact ⟨c,by rw [Below.heap_setCell _ _ _ _ e];exact hc⟩
theorem RD.far {w W:World} {rb b j T:Nat} {h:RHd} {S:St} {qs:List (Ru × Option Addr × Nat)} {u:Value} (r:RD w W rb h S qs) (hb:Loc W b T) (h1:T≠139/\T≠153/\T≠55/\T≠9) (hw:w.heap.size<=b):RD w (W.setCell ⟨b,j,none⟩ u) rb h S qs:=by
 obtain ⟨c,hb⟩:=hb
 have apart:∀ {E k n:Nat} {v:Value} {cs:List Value},W.ownsRow w.heap.size E k v n cs->E≠T->(W.setCell ⟨b,j,none⟩ u).ownsRow w.heap.size E k v n cs:=by
  intro E k n v cs ho hE
  refine qh ho (fun i hi=>Below.heap_setCell _ _ _ _ (fun e=>?_))
  simp only at e
  subst e
  rcases ho.2 with ⟨rfl,-⟩ | ⟨g,c,cur,rfl,-,hh,-⟩
  ·cases hi
  ·simp only [Value.ownBlock,Option.some.injEq] at hi
   subst hi
   rw [hb] at hh
   simp only [Option.some.injEq,Obj.cells.injEq] at hh
   exact hE hh.2.1.symm
 refine ⟨?_,r.wds,apart r.tok (Ne.symm h1.2.1),apart r.rul (Ne.symm h1.2.2.1),r.map,fun q hq=>apart (r.row q hq) (Ne.symm h1.2.2.2),r.bel.setCell (p:=⟨b,j,none⟩) hw _,r.new,r.ok⟩
 rw [Below.heap_setCell _ _ _ _ (fun e=>?_)]
 ·exact r.box
 ·have h2:=r.box
  rw [e,hb] at h2
  simp only [Option.some.injEq,Obj.cells.injEq] at h2
  exact h1.1 h2.2.1
theorem Went.far {w W W':World} {rb b j T:Nat} {S:St} {qs:List (Ru × Option Addr × Nat)} {u:Value} (r:Went w W rb S qs W') (hb:Loc W' b T) (h1:T≠139/\T≠153/\T≠55/\T≠9) (hw:w.heap.size<=W.heap.size) (hW:W.heap.size<=b):Went w W rb S qs (W'.setCell ⟨b,j,none⟩ u):=by
 obtain ⟨⟨h,r,e⟩,k⟩:=r
 exact ⟨⟨h,r.far hb h1 (by omega),e⟩,k.setCell _ _ (fun hlt=>by simp only at hlt;omega)⟩
theorem jo (x:Wd) (W:World):Calls Tryz.prog 142 #[wv x] W fun e W'=>e=.returned (fv (zj x))/\Below W.heap.size W W':=by
 obtain ⟨xk,xt,xa⟩:=x
 unfold wv fv zj
 simp only
 have HB:Hid (∀ o o':Obj,Below W.heap.size W ((W.alloc o).alloc o')):=fun o o'=>qd (qb _ _) (qb _ _)
 go_enter Tryz.func142,Tryz.ntmps142
 go_wp2_with fail
 refine bodyPost_ret (v:=.agg #[.int .i64 1,.int .i64 xa]) (by simp [results,Tryz.results142,go_sem, *]) rfl ?_
 exact ⟨rfl,HB.out _ _⟩
theorem qaz (x:Wd) (W:World):Calls Tryz.prog 157 #[wv x] W fun e W'=>e=.returned (fv (jb x))/\Below W.heap.size W W':=by
 obtain ⟨xk,xt,xa⟩:=x
 unfold wv fv jb
 simp only
 have HB:Hid (∀ o o':Obj,Below W.heap.size W ((W.alloc o).alloc o')):=fun o o'=>qd (qb _ _) (qb _ _)
 go_enter Tryz.func157,Tryz.ntmps157
 go_wp2_with fail
 refine bodyPost_ret (v:=.agg #[.int .i64 7,.int .i64 xa]) (by simp [results,Tryz.results157,go_sem, *]) rfl ?_
 exact ⟨rfl,HB.out _ _⟩
theorem qf9 (k a:Int) (t:ByteArray) (W:World):(Instr.field 149 (.agg #[.int .i64 k,.string t,.int .i64 a]) 0).run Tryz.prog W=.ok (.int .i64 k) W:=by kernel_rfl
theorem qjr (k a:Int) (t:ByteArray) (W:World):(Instr.field 149 (.agg #[.int .i64 k,.string t,.int .i64 a]) 1).run Tryz.prog W=.ok (.string t) W:=by kernel_rfl
def qaj (t:ByteArray) (S:St):St:=if S.hd.t=t then S.next else S
theorem qak (t:ByteArray) (ht:t≠⟨#[]⟩) (w W:World) (rb:Nat) (h:RHd) (S:St) (qs:List (Ru × Option Addr × Nat)) (r:RD w W rb h S qs) (b:Bool) (hb:b=true↔S.hd.t=t) :
  Calls Tryz.prog 121 #[.pointer (some ⟨rb,0,none⟩),.string t] W fun e W'=>e=.returned (.bool b)/\Went w W rb (qaj t S) qs W':=by
 have H1:Hid (Calls Tryz.prog 123 #[.pointer (some ⟨rb,0,none⟩)] W fun e W'=>e=.returned (wv S.hd)/\Below W.heap.size W W'):=kp w W rb h S qs r
 have HR:Hid (RD w W rb h S qs):=r
 unfold wv at H1
 have HB:Hid (b=true↔S.hd.t=t):=hb
 clear r hb
 generalize hx:S.hd=x at *
 obtain ⟨xk,xt,xa⟩:=x
 simp only at H1 HB
 have HX:Hid (S.hd=⟨xk,xt,xa⟩):=hx
 clear hx
 cases b
 ·have hne:xt≠t:=fun e=>by have:=HB.out.2 e;cases this
  have hq:=k9 hne
  have HS:Hid (qaj t S=S):=by
   show _=_
   unfold qaj
   rw [if_neg (by rw [HX.out];exact hne)]
  clear hne HB
  have hf:=qjr xk xa xt
  go_enter Tryz.func121,Tryz.ntmps121
  go_wp2_with fail
  refine H1.out.mono ?_
  rintro e W1 ⟨rfl,hB⟩
  have HB1:Hid (Below W.heap.size W W1):=hB
  clear hB
  go_wp2_with fail
  go_ret
  refine ⟨rfl,?_⟩
  rw [HS.out]
  exact Went.stay HR.out HB1.out
 ·have heq:xt=t:=HB.out.1 rfl
  have hq:=xh heq
  have HE:Hid (Ends S.ws.tail):=(HR.out.ok.ends.tail_of_text (by rw [show yv S.ws=⟨xk,xt,xa⟩ from HX.out];simp only;rw [heq];exact ht)).2
  have HS:Hid (qaj t S=S.next):=by
   show _=_
   unfold qaj
   rw [if_pos (by rw [HX.out];exact heq)]
  clear heq HB
  have hf:=qjr xk xa xt
  go_enter Tryz.func121,Tryz.ntmps121
  go_wp2_with fail
  refine H1.out.mono ?_
  rintro e W1 ⟨rfl,hB⟩
  have HB1:Hid (Below W.heap.size W W1):=hB
  clear hB
  go_wp2_with fail
  refine (qb1 w W1 rb h S qs (HR.out.step HB1.out) HE.out).mono ?_
  rintro e W2 ⟨rfl,hW2⟩
  have HW2:Hid (Went w W rb S.next qs W2):=by
   refine ⟨⟨⟨h.wb,h.wo+3,h.wc - 1,h.ta,h.tc,h.ra,h.rc⟩,by rw [hW2];exact (HR.out.step HB1.out).next HE.out,fun _ _ r0=>by have e:=qcw HR.out r0;exact e⟩,?_⟩
   rw [hW2]
   exact (zk HB1.out).setCell ⟨rb,0,none⟩ _ (fun _=>rfl)
  clear hW2
  go_wp2_with fail
  go_ret
  refine ⟨rfl,?_⟩
  rw [HS.out]
  exact HW2.out
def takeS (k:Int) (S:St):St:=if S.hd.k=k then S.next else S
def takeW (k:Int) (S:St):Wd:=if S.hd.k=k then S.hd else ⟨0,⟨#[]⟩,0⟩
def jp (k:Int) (S:St):Flt:=if S.hd.k=k then (0,0) else zj S.hd
theorem jx (k:Int) (hk:k≠5) (w W:World) (rb:Nat) (h:RHd) (S:St) (qs:List (Ru × Option Addr × Nat)) (r:RD w W rb h S qs) :
  Calls Tryz.prog 143 #[.pointer (some ⟨rb,0,none⟩),.int .i64 k] W fun e W'=>e=.returned (.tuple #[wv (takeW k S),fv (jp k S)])/\Went w W rb (takeS k S) qs W':=by
 have HR:Hid (∀ V:World,Below W.heap.size W V->RD w V rb h S qs):=fun V hV=>r.step hV
 have H1:Hid (∀ V:World,Below W.heap.size W V->Calls Tryz.prog 123 #[.pointer (some ⟨rb,0,none⟩)] V fun e W'=>e=.returned (wv S.hd)/\Below V.heap.size V W'):=fun V hV=>kp w V rb h S qs (r.step hV)
 have HA:Hid (Below W.heap.size W ((W.alloc (.cells #[.int .i64 0,.string ⟨#[]⟩,.int .i64 0] 149)).alloc (.cells #[.int .i64 0,.int .i64 0] 125))):=qd (qb _ _) (qb _ _)
 have hb0:((W.alloc (.cells #[.int .i64 0,.string ⟨#[]⟩,.int .i64 0] 149)).alloc (.cells #[.int .i64 0,.int .i64 0] 125)).heap[W.heap.size]?=some (.cells #[.int .i64 0,.string ⟨#[]⟩,.int .i64 0] 149 (0,0)):=qf (qb _ _) (heap_alloc_new _ _)
 have hb1:((W.alloc (.cells #[.int .i64 0,.string ⟨#[]⟩,.int .i64 0] 149)).alloc (.cells #[.int .i64 0,.int .i64 0] 125)).heap[W.heap.size+1]?=some (.cells #[.int .i64 0,.int .i64 0] 125 (0,0)):=by
  have:=heap_alloc_new (W.alloc (.cells #[.int .i64 0,.string ⟨#[]⟩,.int .i64 0] 149)) (.cells #[.int .i64 0,.int .i64 0] 125)
  rwa [qt] at this
 have hrb:rb<W.heap.size:=(Array.getElem?_eq_some_iff.1 r.box).1
 have HQ:Hid (StOk S):=r.ok
 have HWW:Hid (w.heap.size<=W.heap.size):=r.bel.size
 clear r
 generalize hx:S.hd=x at *
 obtain ⟨xk,xt,xa⟩:=x
 unfold wv at H1
 simp only at H1
 have HX:Hid (S.hd=⟨xk,xt,xa⟩):=hx
 clear hx
 go_enter Tryz.func143,Tryz.ntmps143
 go_upto_region 1 with fail
 generalize (W.alloc (.cells #[.int .i64 0,.string ⟨#[]⟩,.int .i64 0] 149)).alloc (.cells #[.int .i64 0,.int .i64 0] 125)=W1 at HA hb0 hb1 ⊢
 obtain ⟨nb,hnb⟩:∃ nb,nb=W.heap.size:=⟨_,rfl⟩
 rw [<-hnb] at hb0 hb1 ⊢
 have HN:Hid (nb=W.heap.size/\rb<nb):=⟨hnb,by rw [hnb];exact hrb⟩
 have HBX:Hid (W1.heap[nb]?=some (.cells #[.int .i64 0,.string ⟨#[]⟩,.int .i64 0] 149 (0,0))/\W1.heap[nb+1]?=some (.cells #[.int .i64 0,.int .i64 0] 125 (0,0))):=⟨hb0,hb1⟩
 clear hb0 hb1 hrb hnb
 go_wp2_with fail
 refine (H1.out _ HA.out).mono ?_
 rintro e W2 ⟨rfl,hB⟩
 have HB2:Hid (Below W1.heap.size W1 W2/\Below W.heap.size W W2):=⟨hB,qd HA.out hB⟩
 clear hB
 obtain ⟨tb,htb⟩:∃ tb,tb=W2.heap.size:=⟨_,rfl⟩
 by_cases hkk:xk=k
 ·have hq:(xk != k)=false:=by simp [hkk]
  have HE:Hid (Ends S.ws.tail):=(HQ.out.ends.tail_of_kind (by rw [show yv S.ws=⟨xk,xt,xa⟩ from HX.out];simp only;rw [hkk];exact hk)).2
  have HT:Hid (takeS k S=S.next/\takeW k S=⟨xk,xt,xa⟩/\jp k S=(0,0)):=by
   unfold takeS takeW jp
   rw [HX.out]
   simp only
   rw [if_pos hkk,if_pos hkk,if_pos hkk]
   exact ⟨rfl,rfl,rfl⟩
  have HR3:Hid (RD w (W2.alloc (.cells #[.int .i64 xk,.string xt,.int .i64 xa] 149)) rb h S qs):=HR.out _ (qd HB2.out.2 (qb _ _))
  have HSZ:Hid (nb+2<=W2.heap.size):=by
   have h1:=HB2.out.1.size
   have h2:=(Array.getElem?_eq_some_iff.1 HBX.out.2).1
   show _<=_
   omega
  clear hkk
  go_wp2_with fail
  refine (qb1 w _ rb h S qs HR3.out HE.out).mono ?_
  rintro e W3 ⟨rfl,hW3⟩
  have hne:∀ k,k≠rb->W3.heap[k]?=(W2.alloc (.cells #[.int .i64 xk,.string xt,.int .i64 xa] 149)).heap[k]?:=fun k hk=>by rw [hW3];exact Below.heap_setCell _ _ _ _ hk
  have t0:W3.heap[W2.heap.size]?=some (.cells #[.int .i64 xk,.string xt,.int .i64 xa] 149 (0,0)):=by
   rw [hne _ (by have:=HN.out.2;have:=HSZ.out;omega)]
   exact heap_alloc_new _ _
  have t1:W3.heap[nb]?=some (.cells #[.int .i64 0,.string ⟨#[]⟩,.int .i64 0] 149 (0,0)):=by
   rw [hne _ (by have:=HN.out.2;omega)]
   exact qf (qd HB2.out.1 (qb _ _)) HBX.out.1
  have t2:W3.heap[nb+1]?=some (.cells #[.int .i64 0,.int .i64 0] 125 (0,0)):=by
   rw [hne _ (by have:=HN.out.2;omega)]
   exact qf (qd HB2.out.1 (qb _ _)) HBX.out.2
  have HW3:Hid (Went w W rb S.next qs W3):=by
   refine ⟨⟨⟨h.wb,h.wo+3,h.wc - 1,h.ta,h.tc,h.ra,h.rc⟩,by rw [hW3];exact HR3.out.next HE.out,fun _ _ r0=>by have e:=qcw (HR.out W (Below.refl _ _)) r0;exact e⟩,?_⟩
   rw [hW3]
   exact (zk (qd HB2.out.2 (qb _ _))).setCell ⟨rb,0,none⟩ _ (fun _=>rfl)
  have p0:W3.cell? ⟨W2.heap.size,0,none⟩=some (.int .i64 xk):=by rw [qe t0];rfl
  have p1:W3.cell? ⟨W2.heap.size,1,none⟩=some (.string xt):=by rw [qe t0];rfl
  have p2:W3.cell? ⟨W2.heap.size,2,none⟩=some (.int .i64 xa):=by rw [qe t0];rfl
  have q0:W3.cell? ⟨nb,0,none⟩=some (.int .i64 0):=by rw [qe t1];rfl
  have q1:W3.cell? ⟨nb,1,none⟩=some (.string ⟨#[]⟩):=by rw [qe t1];rfl
  have q2:W3.cell? ⟨nb,2,none⟩=some (.int .i64 0):=by rw [qe t1];rfl
  have q3:W3.cell? ⟨nb+1,0,none⟩=some (.int .i64 0):=by rw [qe t2];rfl
  have q4:W3.cell? ⟨nb+1,1,none⟩=some (.int .i64 0):=by rw [qe t2];rfl
  have z0:W3.frozen? ⟨nb,0,none⟩=false:=qi t1 0
  have z1:W3.frozen? ⟨nb,1,none⟩=false:=qi t1 1
  have z2:W3.frozen? ⟨nb,2,none⟩=false:=qi t1 2
  have z3:W3.frozen? ⟨nb+1,0,none⟩=false:=qi t2 0
  have z4:W3.frozen? ⟨nb+1,1,none⟩=false:=qi t2 1
  have HLL:Loc W3 nb 149/\Loc W3 (nb+1) 125:=⟨⟨_,t1⟩,⟨_,t2⟩⟩
  clear hne t0 t1 t2 hW3
  have HL:Hid (Loc W3 nb 149/\Loc W3 (nb+1) 125):=HLL
  clear HLL
  go_wp2_with fail
  refine bodyPost_ret (v:=.tuple #[.agg #[.int .i64 xk,.string xt,.int .i64 xa],.agg #[.int .i64 0,.int .i64 0]]) (by simp [results,Tryz.results143,go_sem, *]) rfl ?_
  obtain ⟨e1,e2,e3⟩:=HT.out
  rw [e1,e2,e3]
  have hn:W.heap.size<=nb:=Nat.le_of_eq HN.out.1.symm
  have l0:=HL.out.1
  have l1:=HL.out.2
  refine ⟨rfl,?_⟩
  exact ((((HW3.out.far l0 (by decide) HWW.out hn).far (l0.set _ _ _) (by decide) HWW.out hn).far ((l0.set _ _ _).set _ _ _) (by decide) HWW.out hn).far (((l1.set _ _ _).set _ _ _).set _ _ _) (by decide) HWW.out (by omega)).far ((((l1.set _ _ _).set _ _ _).set _ _ _).set _ _ _) (by decide) HWW.out (by omega)
 ·have hq:(xk != k)=true:=by simp [hkk]
  have HT:Hid (takeS k S=S/\takeW k S=⟨0,⟨#[]⟩,0⟩/\jp k S=zj ⟨xk,xt,xa⟩):=by
   unfold takeS takeW jp
   rw [HX.out]
   simp only
   rw [if_neg hkk,if_neg hkk,if_neg hkk]
   exact ⟨rfl,rfl,rfl⟩
  clear hkk
  go_wp2_with fail
  refine (jo ⟨xk,xt,xa⟩ _).mono ?_
  rintro e W3 ⟨rfl,hB⟩
  unfold fv zj
  simp only
  have HB3:Hid (Below W1.heap.size W1 W3/\Below W.heap.size W W3):=⟨qd HB2.out.1 (qd (qb _ _) hB),qd HB2.out.2 (qd (qb _ _) hB)⟩
  clear hB
  have t1:=qf HB3.out.1 HBX.out.1
  have t2:=qf HB3.out.1 HBX.out.2
  have q0:W3.cell? ⟨nb,0,none⟩=some (.int .i64 0):=by rw [qe t1];rfl
  have q1:W3.cell? ⟨nb,1,none⟩=some (.string ⟨#[]⟩):=by rw [qe t1];rfl
  have q2:W3.cell? ⟨nb,2,none⟩=some (.int .i64 0):=by rw [qe t1];rfl
  have q3:W3.cell? ⟨nb+1,0,none⟩=some (.int .i64 0):=by rw [qe t2];rfl
  have q4:W3.cell? ⟨nb+1,1,none⟩=some (.int .i64 0):=by rw [qe t2];rfl
  have z0:W3.frozen? ⟨nb,0,none⟩=false:=qi t1 0
  have z1:W3.frozen? ⟨nb,1,none⟩=false:=qi t1 1
  have z2:W3.frozen? ⟨nb,2,none⟩=false:=qi t1 2
  have z3:W3.frozen? ⟨nb+1,0,none⟩=false:=qi t2 0
  have z4:W3.frozen? ⟨nb+1,1,none⟩=false:=qi t2 1
  have HL:Hid (Loc W3 nb 149/\Loc W3 (nb+1) 125):=⟨⟨_,t1⟩,⟨_,t2⟩⟩
  clear t1 t2
  go_wp2_with fail
  refine bodyPost_ret (v:=.tuple #[.agg #[.int .i64 0,.string ⟨#[]⟩,.int .i64 0],.agg #[.int .i64 1,.int .i64 xa]]) (by simp [results,Tryz.results143,go_sem, *]) rfl ?_
  obtain ⟨e1,e2,e3⟩:=HT.out
  rw [e1,e2,e3]
  have hn:W.heap.size<=nb:=Nat.le_of_eq HN.out.1.symm
  have l0:=HL.out.1
  have l1:=HL.out.2
  have HW3:Went w W rb S qs W3:=Went.stay (HR.out W (Below.refl _ _)) HB3.out.2
  refine ⟨rfl,?_⟩
  exact ((((HW3.far l0 (by decide) HWW.out hn).far (l0.set _ _ _) (by decide) HWW.out hn).far ((l0.set _ _ _).set _ _ _) (by decide) HWW.out hn).far (((l1.set _ _ _).set _ _ _).set _ _ _) (by decide) HWW.out (by omega)).far ((((l1.set _ _ _).set _ _ _).set _ _ _).set _ _ _) (by decide) HWW.out (by omega)
theorem qas {α:Type} (f:α->List Value) (hf:∀ x,(f x).length=4):∀ (l:List α) (i:Nat) (x:α) (j:Nat),l[i]?=some x->j<4->(l.flatMap f)[i * 4+j]?=(f x)[j]?
 | [],i,x,j,h,_=>by cases h
 | y :: r,0,x,j,h,hj=>by
  cases h
  rw [List.flatMap_cons,List.getElem?_append_left (by rw [hf];omega)]
  rw [Nat.zero_mul,Nat.zero_add]
 | y :: r,i+1,x,j,h,hj=>by
  rw [List.flatMap_cons,List.getElem?_append_right (by rw [hf];omega),hf]
  rw [show (i+1) * 4+j - 4=i * 4+j by omega]
  exact qas f hf r i x j h hj
theorem qcq {α:Type} (f:α->List Value) (hf:∀ x,(f x).length=4):∀ (l:List α),(l.flatMap f).length=l.length * 4
 | []=>rfl
 | y :: r=>by rw [List.flatMap_cons,List.length_append,hf,qcq f hf r,List.length_cons];omega
theorem qjs {α:Type} (f:α->List Value) (hf:∀ x,(f x).length=4) (y:α) (j:Nat) (u:Value):∀ (l:List α) (i:Nat) (x:α),l[i]?=some x->j<4->(f x).set j u=f y->(l.flatMap f).set (i * 4+j) u=(l.set i y).flatMap f
 | [],i,x,h,_,_=>by cases h
 | z :: r,0,x,h,hj,he=>by
  cases h
  rw [List.set_cons_zero,List.flatMap_cons,List.flatMap_cons,Nat.zero_mul,Nat.zero_add,List.set_append_left _ _ (by rw [hf];exact hj),he]
 | z :: r,i+1,x,h,hj,he=>by
  rw [List.set_cons_succ,List.flatMap_cons,List.flatMap_cons,List.set_append_right _ _ (by rw [hf];omega),hf,show (i+1) * 4+j - 4=i * 4+j by omega]
  rw [qjs f hf y j u r i x h hj he]
theorem qjt {s:ByteArray}:∀ {ts:List Tk} {k:Nat} {t:Tk},(∀ (i:Nat) (t:Tk),i<k->ts[i]?=some t->t.n≠s)->ts[k]?=some t->t.n=s->vg ts s=some k
 | [],k,t,_,h,_=>by cases h
 | u :: r,0,t,_,h,he=>by
  cases h
  unfold vg
  rw [if_pos he]
 | u :: r,k+1,t,hb,h,he=>by
  unfold vg
  rw [if_neg (hb 0 u (by omega) rfl),qjt (k:=k) (t:=t) (fun i t hi ht=>hb (i+1) t (by omega) (by simpa using ht)) (by simpa using h) he]
  rfl
theorem qga {s:ByteArray}:∀ {ts:List Tk},(∀ (i:Nat) (t:Tk),ts[i]?=some t->t.n≠s)->vg ts s=none
 | [],_=>rfl
 | u :: r,hb=>by
  unfold vg
  rw [if_neg (hb 0 u rfl),qga (ts:=r) (fun i t ht=>hb (i+1) t (by simpa using ht))]
  rfl
def idxI (o:Option Nat):Int:=match o with | some i=>i | none=>-1
theorem qr0 {ts:List Tk} {ls:List Bool} (hl:ls.length=ts.length) {i:Nat} {t:Tk} (ht:ts[i]?=some t):∃ b,ls[i]?=some b/\(ts.zip ls)[i]?=some (t,b):=by
 have hi:i<ts.length:=(List.getElem?_eq_some_iff.1 ht).1
 refine ⟨ls[i]'(by omega),List.getElem?_eq_getElem _,?_⟩
 rw [List.getElem?_zip_eq_some]
 exact ⟨ht,List.getElem?_eq_getElem _⟩
theorem RD.tokAt {w W:World} {rb:Nat} {h:RHd} {S:St} {qs:List (Ru × Option Addr × Nat)} (r:RD w W rb h S qs) {i:Nat} {t:Tk} (ht:S.ts[i]?=some t) :
  ∃ tb b,h.ta=some ⟨tb,0,none⟩/\S.ls[i]?=some b/\W.cell? ⟨tb,i * 4,none⟩=some (.string t.n)/\W.cell? ⟨tb,i * 4+1,none⟩=some (.int .i64 t.l)/\W.cell? ⟨tb,i * 4+2,none⟩=some (.int .i64 t.a)/\W.cell? ⟨tb,i * 4+3,none⟩=some (.bool b)/\∀ j,W.frozen? ⟨tb,j,none⟩=false:=by
 have hi:i<S.ts.length:=(List.getElem?_eq_some_iff.1 ht).1
 obtain ⟨b,hb,hz⟩:=qr0 r.ok.nl ht
 obtain ⟨ao,c,e,h1,h2,h3⟩:=zh r.tok
 have hta:∃ tb,h.ta=some ⟨tb,0,none⟩:=by
  cases e
  rcases h3 with ⟨-,h3,-⟩ | ⟨tb,h3⟩
  ·omega
  ·exact ⟨tb,h3⟩
 obtain ⟨tb,hta⟩:=hta
 have ho:=r.tok
 rw [hta] at ho
 have cell:∀ j u,(rtC (S.ts.zip S.ls))[j]?=some u->W.cell? ⟨tb,j,none⟩=some u:=fun j u hu=>by
  have:=World.ownsRow.cells ho (g:=tb) rfl j u hu
  rwa [Addr.add_lit,Nat.zero_add] at this
 have fz:∀ j,W.frozen? ⟨tb,j,none⟩=false:=by
  rcases ho.2 with ⟨hv,-⟩ | ⟨g',cap',cur,hv,hb,hh,-⟩
  ·cases hv
  ·cases hv
   exact fun j=>qi hh j
 refine ⟨tb,b,hta,hb,cell _ _ ?_,cell _ _ ?_,cell _ _ ?_,cell _ _ ?_,fz⟩
 ·have:=qas (fun x:Tk × Bool=>[.string x.1.n,.int .i64 x.1.l,.int .i64 x.1.a,.bool x.2]) (fun _=>rfl) (S.ts.zip S.ls) i (t,b) 0 hz (by omega)
  rw [Nat.add_zero] at this
  exact this
 ·exact qas _ (fun _=>rfl) (S.ts.zip S.ls) i (t,b) 1 hz (by omega)
 ·exact qas _ (fun _=>rfl) (S.ts.zip S.ls) i (t,b) 2 hz (by omega)
 ·exact qas _ (fun _=>rfl) (S.ts.zip S.ls) i (t,b) 3 hz (by omega)
theorem RD.tlen {w W:World} {rb:Nat} {h:RHd} {S:St} {qs:List (Ru × Option Addr × Nat)} (r:RD w W rb h S qs):S.ts.length<=h.tc/\h.tc<=9223372036854775807:=by
 obtain ⟨ao,c,e,h1,h2,h3⟩:=zh r.tok
 cases e
 unfold maxLen at h2
 omega
theorem qmq (t:Tk) (b:Bool) (nb:Nat) (s:ByteArray) (w:World) (hc:w.cell? ⟨nb,1,none⟩=some (.string s)) :
  Calls Tryz.prog 169 #[.agg #[.string t.n,.int .i64 t.l,.int .i64 t.a,.bool b],.pointer (some ⟨nb,0,none⟩)] w fun e w'=>e=.returned (.bool (t.n.toList == s.toList))/\Below w.heap.size w w':=by
 have hc:=qo hc
 go_enter Tryz.func169,Tryz.ntmps169
 go_wp2
 go_ret
 exact ⟨rfl,(Below.refl _ _).alloc (Nat.le_refl _) _⟩
theorem qhc (w W:World) (rb:Nat) (h:RHd) (S:St) (qs:List (Ru × Option Addr × Nat)) (r:RD w W rb h S qs) (nb:Nat) (s:ByteArray) (hc:W.cell? ⟨nb,1,none⟩=some (.string s)) :
  Calls Tryz.prog 168 #[.slice h.ta S.ts.length h.tc,.func (.func 169) #[] #[.pointer (some ⟨nb,0,none⟩)]] W fun e w'=>e=.returned (.int .i64 (idxI (vg S.ts s)))/\Below W.heap.size W w':=by
 have HR:Hid (∀ V:World,Below W.heap.size W V->RD w V rb h S qs/\V.cell? ⟨nb,1,none⟩=some (.string s)):=fun V hV=>⟨r.step hV,qj hV hc⟩
 obtain ⟨hle,hmx⟩:=r.tlen
 have hnn:S.ts.length<=40:=r.ok.nt
 obtain ⟨wb,wo,wc,ta,tc,ra,rc⟩:=h
 simp only at hle hmx
 simp only
 generalize en:S.ts.length=n at *
 have HN:Hid (S.ts.length=n):=en
 clear r hc en
 go_enter Tryz.func168,Tryz.ntmps168
 go_wp2
 go_loopg [8] n (fun kx s8 wr=>∃ k:Nat,s8=.int .i64 k/\k<=n/\n - k<=kx/\Hid (Below W.heap.size W wr/\∀ i t,i<k->S.ts[i]?=some t->t.n≠s))
 case atStart=>exact ⟨0,rfl,Nat.zero_le _,by omega,(⟨Below.refl _ _,fun i t hi=>absurd hi (Nat.not_lt_zero _)⟩:Below W.heap.size W W/\∀ i t,i<0->S.ts[i]?=some t->t.n≠s)⟩
 case round =>
  obtain ⟨k,rfl,hk,hg,J⟩:=hrel
  by_cases hlt:k<n
  ·obtain ⟨t,ht⟩:∃ t,S.ts[k]?=some t:=⟨S.ts[k]'(by rw [HN.out];exact hlt),List.getElem?_eq_getElem _⟩
   obtain ⟨tb,bb,hta,-,c0,c1,c2,c3,-⟩:=(HR.out wr J.out.1).1.tokAt ht
   simp only at hta
   subst hta
   have HT:Hid (S.ts[k]?=some t):=ht
   have HC:Hid (Calls Tryz.prog 169 #[.agg #[.string t.n,.int .i64 t.l,.int .i64 t.a,.bool bb],.pointer (some ⟨nb,0,none⟩)] wr fun e w'=>e=.returned (.bool (t.n.toList == s.toList))/\Below wr.heap.size wr w'):=qmq t bb nb s wr (HR.out wr J.out.1).2
   clear ht
   by_cases he:t.n=s
   ·have hb:=xh he
    rw [hb] at HC
    have HF:Hid (idxI (vg S.ts s)=(k:Int)):=by
     show _=_
     rw [qjt J.out.2 HT.out he]
     rfl
    generalize t.n=tn at c0 HC
    clear hb he
    go_wp2_with (go_at_call 169;refine HC.out.mono ?_;rintro e w1 ⟨rfl,hB⟩)
    go_ret
    exact ⟨by rw [HF.out];rfl,qd J.out.1 hB⟩
   ·have hb:=k9 he
    rw [hb] at HC
    have HF:Hid (∀ i t,i<k+1->S.ts[i]?=some t->t.n≠s):=fun i u hi hu=>by
     rcases Nat.lt_or_ge i k with h | h
     ·exact J.out.2 i u h hu
     ·have:i=k:=by omega
      subst this
      rw [HT.out] at hu
      cases hu
      exact he
    generalize t.n=tn at c0 HC
    clear hb he
    go_wp2_with (go_at_call 169;refine HC.out.mono ?_;rintro e w1 ⟨rfl,hB⟩)
    go_roundg (n - (k+1))
    case measure=>omega
    case rel=>exact ⟨k+1,by simp,by omega,Nat.le_refl _,(⟨qd J.out.1 hB,HF.out⟩:Below W.heap.size W w1/\∀ i t,i<k+1->S.ts[i]?=some t->t.n≠s)⟩
  ·have HF:Hid (idxI (vg S.ts s)=-1):=by
    show _=_
    rw [qga (fun i t ht=>J.out.2 i t (by have:=(List.getElem?_eq_some_iff.1 ht).1;rw [HN.out] at this;omega) ht)]
    rfl
   go_wp2
   go_ret
   exact ⟨by rw [HF.out];rfl,J.out.1⟩
structure Keep (W W':World):Prop where
 size:W.heap.size<=W'.heap.size
 loc:∀ (b:Nat) (c:Array Value) (T:TypeId),W.heap[b]?=some (Obj.cells c T (0,0))->T≠139->T≠153->T≠55->T≠9->W'.heap[b]?=some (Obj.cells c T (0,0))
theorem Keep.refl (W:World):Keep W W:=⟨Nat.le_refl _,fun _ _ _ h _ _ _ _=>h⟩
theorem Keep.trans {a b c:World} (h:Keep a b) (k:Keep b c):Keep a c:=⟨Nat.le_trans h.size k.size,fun b c T hb h1 h2 h3 h4=>k.loc b c T (h.loc b c T hb h1 h2 h3 h4) h1 h2 h3 h4⟩
theorem qp {W W':World} (h:Below W.heap.size W W'):Keep W W':=⟨h.size,fun _ _ _ hb _ _ _ _=>qf h hb⟩
theorem Keep.set {W W':World} (k:Keep W W') {b T:Nat} (hb:Loc W' b T) (hT:T=139\/T=153\/T=55\/T=9) (j:Nat) (u:Value):Keep W (W'.setCell ⟨b,j,none⟩ u):=by
 refine ⟨by have:=k.size;simpa using this,fun b' c T' h0 h1 h2 h3 h4=>?_⟩
 have h5:=k.loc b' c T' h0 h1 h2 h3 h4
 rw [Below.heap_setCell _ _ _ _ (fun e=>?_)]
 ·exact h5
 ·simp only at e
  subst e
  obtain ⟨c2,hc2⟩:=hb
  rw [h5] at hc2
  simp only [Option.some.injEq,Obj.cells.injEq] at hc2
  have e1:T'=T:=hc2.2.1
  subst e1
  rcases hT with e | e | e | e
  ·exact h1 e
  ·exact h2 e
  ·exact h3 e
  ·exact h4 e
theorem Went.keep {w W W':World} {rb:Nat} {S:St} {qs:List (Ru × Option Addr × Nat)} (r:Went w W rb S qs W') (hrb:Loc W rb 139):Keep W W':=by
 obtain ⟨-,k⟩:=r
 refine ⟨k.size,fun b c T hb h1 h2 h3 h4=>?_⟩
 rw [k.block b (Array.getElem?_eq_some_iff.1 hb).1 (fun e=>?_)]
 ·exact hb
 ·cases e
  obtain ⟨c2,hc2⟩:=hrb
  rw [hb] at hc2
  simp only [Option.some.injEq,Obj.cells.injEq] at hc2
  exact h1 hc2.2.1
theorem Tryz.info153:(Tryz.prog.info? 153).map (fun i=>(i.zero,i.size,i.bytes))=some (some (.agg #[.string ⟨#[]⟩,.int .i64 0,.int .i64 0,.bool false]),4,40):=by kernel_rfl
theorem qx {W:World} {base E k n:Nat} {v:Value} {cs:List Value} (h:W.ownsRow base E k v n cs) {i:Nat} (hi:v.ownBlock=some i):Loc W i E:=by
 rcases h.2 with ⟨rfl,-⟩ | ⟨g,c,cur,rfl,-,hh,-⟩
 ·cases hi
 ·simp only [Value.ownBlock,Option.some.injEq] at hi
  subst hi
  exact ⟨_,hh⟩
theorem qr {W:World} {b b' T T':Nat} (h:Loc W b T) (h':Loc W b' T') (hT:T≠T'):b≠b':=by
 rintro rfl
 obtain ⟨c,hc⟩:=h
 obtain ⟨c',hc'⟩:=h'
 rw [hc] at hc'
 simp only [Option.some.injEq,Obj.cells.injEq] at hc'
 exact hT hc'.2.1
theorem qb2 {W W':World} {base E k n:Nat} {v:Value} {cs:List Value} (h:W.ownsRow base E k v n cs) {v2:Value} {E2 base2 k2 n2:Nat} {cs2:List Value} (h2:W.ownsRow base2 E2 k2 v2 n2 cs2) (hE:E≠E2) (hg:W.grownBy W' v2.ownBlock):W'.ownsRow base E k v n cs :=
 qh h (fun i hi=>hg.block i (World.ownsRow.lt h i hi).2 (fun e=>qr (qx h hi) (qx h2 e.symm) hE rfl))
theorem RD.addTok {w W:World} {rb:Nat} {h:RHd} {S:St} {qs:List (Ru × Option Addr × Nat)} (r:RD w W rb h S qs) (nm:ByteArray) (hn:S.ts.length<40) :
  ∃ tb m c w',(Builtin.append_ #[137,137] 137 #[.slice h.ta S.ts.length h.tc,.slice (some ⟨W.heap.size,0,none⟩) 1 1]).run Tryz.prog (W.alloc (.cells #[.string nm,.int .i64 0,.int .i64 0,.bool false] 153))=.ok (.slice (some ⟨tb,0,none⟩) m c) w'/\m=S.ts.length+1/\w'.heap[rb]?=some (.cells (rdC h S) 139 (0,0)) /\
   RD w (w'.setCell ⟨rb,1,none⟩ (.slice (some ⟨tb,0,none⟩) m c)) rb ⟨h.wb,h.wo,h.wc,some ⟨tb,0,none⟩,c,h.ra,h.rc⟩ ⟨S.ws,S.ts++[⟨nm,0,0⟩],S.ls++[false],S.lv,S.st,S.ed,S.ex,S.rs⟩ qs/\Keep W (w'.setCell ⟨rb,1,none⟩ (.slice (some ⟨tb,0,none⟩) m c)):=by
 obtain ⟨i0,hi,hz0,hz1,hz2⟩:=info_parts Tryz.info153
 have hb1:=qb W (.cells #[.string nm,.int .i64 0,.int .i64 0,.bool false] 153)
 have g1:=r.step hb1
 have hnews:∀ j u,(rtC [((⟨nm,0,0⟩:Tk),false)])[j]?=some u->(W.alloc (.cells #[.string nm,.int .i64 0,.int .i64 0,.bool false] 153)).cell? ((⟨W.heap.size,0,none⟩:Addr).add j)=some u:=by
  intro j u hu
  rw [Addr.add_lit,Nat.zero_add,World.cell?_alloc_mark,<-hu]
  exact List.getElem?_toArray (xs:=rtC [((⟨nm,0,0⟩:Tk),false)]) (i:=j)
 obtain ⟨v',w',hr,h2,h3,-⟩:=run_append_own (P:=Tryz.prog) (W.alloc (.cells #[.string nm,.int .i64 0,.int .i64 0,.bool false] 153)) w.heap.size 137 137 153 i0 _ 4 40 Tryz.underlying137 hi hz0 hz1 hz2 rfl (by decide) _ S.ts.length _ g1.tok ⟨W.heap.size,0,none⟩ 1 1 (rtC [((⟨nm,0,0⟩:Tk),false)]) rfl hnews
  (fun u hu=>by simp [rtC] at hu;rcases hu with rfl | rfl | rfl | rfl <;> rfl) (by unfold maxLen;omega) (by omega) (by have:=g1.bel.size;exact this)
 obtain ⟨ao,c,rfl,h4,h5,h6⟩:=zh h2
 obtain ⟨tb,rfl⟩:∃ tb,ao=some ⟨tb,0,none⟩:=by
  rcases h6 with ⟨-,h6,-⟩ | h6
  ·omega
  ·exact h6
 have hbox:w'.heap[rb]?=some (.cells (rdC h S) 139 (0,0)):=by
  rw [h3.block rb (Array.getElem?_eq_some_iff.1 g1.box).1 (fun e=>qr ⟨_,g1.box⟩ (qx g1.tok e.symm) (by decide) rfl)]
  exact g1.box
 have hz:(S.ts++[(⟨nm,0,0⟩:Tk)]).zip (S.ls++[false])=S.ts.zip S.ls++[((⟨nm,0,0⟩:Tk),false)]:=by
  rw [List.zip_append (by rw [r.ok.nl])]
  rfl
 have hrt:rtC (S.ts.zip S.ls++[((⟨nm,0,0⟩:Tk),false)])=rtC (S.ts.zip S.ls)++rtC [((⟨nm,0,0⟩:Tk),false)]:=by unfold rtC;rw [List.flatMap_append]
 have far:∀ {E k n:Nat} {v:Value} {cs:List Value},w'.ownsRow w.heap.size E k v n cs->E≠139->(w'.setCell ⟨rb,1,none⟩ (.slice (some ⟨tb,0,none⟩) (S.ts.length+1) c)).ownsRow w.heap.size E k v n cs:=by
  intro E k n v cs ho hE
  exact qh ho (fun i hi=>Below.heap_setCell _ _ _ _ (qr (qx ho hi) ⟨_,hbox⟩ hE))
 refine ⟨tb,_,c,w',hr,rfl,hbox,⟨?_,r.wds,?_,?_,r.map,fun q hq=>?_,?_,r.new,?_⟩,?_⟩
 ·rw [setCell_eq_setRow w' rb 1 _ 139 (0,0) _ hbox]
  have e:(rdC h S).setIfInBounds 1 (.slice (some ⟨tb,0,none⟩) (S.ts.length+1) c)=rdC ⟨h.wb,h.wo,h.wc,some ⟨tb,0,none⟩,c,h.ra,h.rc⟩ ⟨S.ws,S.ts++[⟨nm,0,0⟩],S.ls++[false],S.lv,S.st,S.ed,S.ex,S.rs⟩:=by
   unfold rdC
   simp
  rw [e]
  exact setRow_heap _ _ _ _ 139 _ hbox
 ·refine far ?_ (by decide)
  simp only [List.length_append,List.length_cons,List.length_nil]
  rw [hz,hrt]
  exact h2
 ·exact far (qb2 g1.rul g1.tok (by decide) h3) (by decide)
 ·exact far (qb2 (g1.row q hq) g1.tok (by decide) h3) (by decide)
 ·exact (g1.bel.grown h3 (g1.bel.size) (fun k hk=>(World.ownsRow.lt g1.tok k hk).1)).setCell (p:=⟨rb,1,none⟩) r.new _
 ·refine ⟨r.ok.ends,?_,?_,r.ok.lv,r.ok.nr⟩
  ·simp only [List.length_append,List.length_cons,List.length_nil]
   omega
  ·simp only [List.length_append,List.length_cons,List.length_nil]
   rw [r.ok.nl]
 ·have k1:Keep W w':=by
   refine (qp hb1).trans ⟨h3.size,fun b c2 T hb q1 q2 q3 q4=>?_⟩
   rw [h3.block b (Array.getElem?_eq_some_iff.1 hb).1 (fun e=>qr ⟨_,hb⟩ (qx g1.tok e.symm) q2 rfl)]
   exact hb
  exact k1.set ⟨_,hbox⟩ (.inl rfl) 1 _
end Go.Proofs.YtngclmglmhiljaaGreatDoor
