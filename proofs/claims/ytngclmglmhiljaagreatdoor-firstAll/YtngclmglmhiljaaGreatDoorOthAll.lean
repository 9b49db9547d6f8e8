/- Texts that the proof of FirstAll stands on beside those. -/
import Derived.Deep.SlicePairs
import Derived.Deep.Strs
import Derived.Deep.RegionHeld
import Derived.Deep.RegionLaw
import Derived.Laws.Bits64b
import Derived.BigQuiet
import Derived.Test.YtngclmglmhiljaaGreatDoorPre15
set_option maxHeartbeats 16000000
set_option maxRecDepth 100000
namespace Go.Proofs.YtngclmglmhiljaaGreatDoor
open Go.RowKit
def cutS (s:ByteArray) (n:Nat):ByteArray:=if n<s.size then s.extract 0 n else s
theorem ubw(s:ByteArray)(n:Nat):(cutS s n).size<=n:=by
 unfold cutS
 split
 ·rw[<-qy,z9];unfold part;simp;omega
 ·omega
theorem uae(s:ByteArray)(n:Nat)(w:World):Calls Tryz.prog 34 #[.string s,.int .i64 n] w fun e a=>e=.returned (.string (cutS s n))/\a=w:=by
 by_cases h:n<s.size
 ·have H:Hid (cutS s n=s.extract 0 n):=by show _=_;unfold cutS;rw[if_pos h]
  generalize cutS s n=r at H
  go_enter Tryz.func34,Tryz.ntmps34
  go_wp2
  go_ret
  exact⟨by rw[H.out];rfl,rfl⟩
 ·have H:Hid (cutS s n=s):=by show _=_;unfold cutS;rw[if_neg h]
  generalize cutS s n=r at H
  go_enter Tryz.func34,Tryz.ntmps34
  go_wp2
  go_ret
  exact⟨by rw[H.out];rfl,rfl⟩
theorem ucd{S:Sp}{i:Nat}{r:SR}{x a:Nat}(b:0<i)(f:S.rs[i]?=some r)(d:r.l=(x:Int))(h:FstL S r.r a):FstP S x a:=by
 obtain⟨u,y,v,c,g,j⟩:=h
 exact FstP.rule i r x y a u v b f d c g j
theorem ua6{S:Sp}{E:Nat->Prop}(b:∀x,E x->Nul S x)(a:∀(i:Nat) (r:SR) (x:Nat),0<i->S.rs[i]?=some r->r.l=(x:Int)->(∀y∈r.r,E y)->E x)(x:Nat):E x↔Nul S x:=⟨b x,fun h=>h E a⟩
theorem ubx{S:Sp}{F:Nat->Nat->Prop}(c:∀x a,F x a->FstP S x a)(d:∀x,x<S.tk->F x x)(b:∀(i:Nat) (r:SR) (x y a:Nat) (u v:List Nat),0<i->S.rs[i]?=some r->r.l=(x:Int)->r.r=u++y :: v->(∀z∈u,Nul S z)->F y a->F x a)(x a:Nat):F x a↔FstP S x a:=⟨c x a,fun h=>h F d b⟩
theorem uby{S:Sp}{F:Nat->Nat->Prop}(d:∀x a,F x a->FolP S x a)(f:F S.st S.tk)(b:∀(i:Nat) (r:SR) (x y a:Nat) (u v:List Nat),0<i->S.rs[i]?=some r->r.l=(x:Int)->r.r=u++y :: v->S.tk<y->FstL S v a->F y a)(c:∀(i:Nat) (r:SR) (x y a:Nat) (u v:List Nat),0<i->S.rs[i]?=some r->r.l=(x:Int)->r.r=u++y :: v->S.tk<y->(∀z∈v,Nul S z)->F x a->F y a)(x a:Nat):F x a↔FolP S x a:=⟨d x a,fun h=>h F f b c⟩
theorem FstL.lt{S:Sp}{l:List Nat}{a:Nat}(h:FstL S l a):a<S.tk:=by obtain⟨_,_,_,_,_,h⟩:=h;exact h.lt
theorem FolP.le{S:Sp}{x a:Nat}(h:FolP S x a):a<=S.tk:=h (fun _ a=>a<=S.tk) (Nat.le_refl _) (fun _ _ _ _ _ _ _ _ _ _ _ _ h=>Nat.le_of_lt h.lt) (fun _ _ _ _ _ _ _ _ _ _ _ _ _ h=>h)
theorem uce(b:Nat->Bool)(k:Nat):(upTo b k).length<=k:=Nat.le_trans (List.length_filter_le _ _) (by simp)
theorem vk{w:World}{a E k n:Nat}{v:Value}{cs:List Value}(h:w.ownsRow a E k v n cs){b T:Nat}{d:Array Value}{j:Nat × Nat}(f:w.heap[b]?=some (.cells d T j))(l:E≠T):v.ownBlock≠some b:=by
 intro i
 rcases h.2 with ⟨rfl,-⟩ | ⟨g,c,cur',rfl,-,hh,-⟩
 ·cases i
 ·simp only[Value.ownBlock,Option.some.injEq]at i
  subst i
  rw[hh]at f
  simp only[Option.some.injEq,Obj.cells.injEq]at f
  exact l f.2.1
theorem uaf{w o:World}{b a E d k l n m:Nat}{v v2:Value}{cs c:List Value}(h:w.ownsRow b E k v n cs)(f:w.ownsRow a d l v2 m c)(p:E≠d)(q:w.grownBy o v.ownBlock):o.ownsRow a d l v2 m c :=
 qh f (fun i j=>q.block i (World.ownsRow.lt f i j).2 (fun e=>qfm h f p (g:=i) e.symm j))
def uah (h:Hd) (G:Gm):Array Value:=#[.slice h.ta G.ts.length h.tc,.string G.s,.int .i64 G.e,.slice h.ra G.rs.length h.rc]
structure GB (w wr:World) (gb:Nat) (h:Hd) (G:Gm) (qs:List (Ru × Option Addr × Nat)):Prop where
 box:wr.heap[gb]?=some (.cells (uah h G) 25 (0,0))
 own:OwnG wr w.heap.size h G qs
 bel:Below w.heap.size w wr
 new:w.heap.size<=gb
theorem GB.step{w wr a:World}{c:Nat}{h:Hd}{G:Gm}{qs:List (Ru × Option Addr × Nat)}(g:GB w wr c h G qs)(b:Below wr.heap.size wr a):GB w a c h G qs :=
 ⟨qf b g.box,g.own.below b,qd g.bel b,g.new⟩
theorem GB.cells{w wr:World}{a:Nat}{h:Hd}{G:Gm}{qs:List (Ru × Option Addr × Nat)}(g:GB w wr a h G qs):
  wr.cell? ⟨a,0,none⟩=some (.slice h.ta G.ts.length h.tc)/\wr.cell? ⟨a,1,none⟩=some (.string G.s)/\wr.cell? ⟨a,2,none⟩=some (.int .i64 G.e)/\wr.cell? ⟨a,3,none⟩=some (.slice h.ra G.rs.length h.rc)/\∀j,wr.frozen? ⟨a,j,none⟩=false :=
 ⟨by rw[qe g.box];rfl,by rw[qe g.box];rfl,by rw[qe g.box];rfl,by rw[qe g.box];rfl,qi g.box⟩
theorem OwnG.box{w:World}{a f j:Nat}{h:Hd}{G:Gm}{qs:List (Ru × Option Addr × Nat)}{c:Array Value}{T:Nat}{u:Value}(o:OwnG w a h G qs)(d:w.heap[f]?=some (.cells c T (0,0)))(k:T≠58)(l:T≠55)(m:T≠9):OwnG (w.setCell ⟨f,j,none⟩ u) a h G qs:=by
 refine⟨?_,?_,o.map,fun q g=>?_⟩
 ·exact qh o.tok (fun i b=>Below.heap_setCell _ _ _ _ (fun e=>by simp only at e;subst e;exact vk o.tok d (Ne.symm k) b))
 ·exact qh o.rul (fun i b=>Below.heap_setCell _ _ _ _ (fun e=>by simp only at e;subst e;exact vk o.rul d (Ne.symm l) b))
 ·exact qh (o.row q g) (fun i b=>Below.heap_setCell _ _ _ _ (fun e=>by simp only at e;subst e;exact vk (o.row q g) d (Ne.symm m) b))
theorem GB.addTok{w W:World}{m:Nat}{h:Hd}{G:Gm}{qs:List (Ru × Option Addr × Nat)}(g:GB w W m h G qs)(J:G.ts.length<=1000)(t:Tk):
  ∃f n c o,(Builtin.append_ #[22,22] 22 #[.slice h.ta G.ts.length h.tc,.slice (some ⟨W.heap.size,0,none⟩) 1 1]).run Tryz.prog (W.alloc (.cells #[.string t.n,.int .i64 t.l,.int .i64 t.a] 58))=.ok (.slice f n c) o/\n=G.ts.length+1/\o.heap[m]?=some (.cells (uah h G) 25 (0,0)) /\
   GB w (o.setCell ⟨m,0,none⟩ (.slice f n c)) m ⟨f,c,h.ra,h.rc⟩ ⟨G.ts++[t],G.s,G.e,G.rs⟩ qs:=by
 obtain⟨I,C,y,z,A⟩:=info_parts Tryz.info58
 have d:=g.step (qb W (.cells #[.string t.n,.int .i64 t.l,.int .i64 t.a] 58))
 have r:∀j u,(tokC [t])[j]?=some u->(W.alloc (.cells #[.string t.n,.int .i64 t.l,.int .i64 t.a] 58)).cell? ((⟨W.heap.size,0,none⟩:Addr).add j)=some u:=by
  intro j u x
  rw[Addr.add_lit,Nat.zero_add,World.cell?_alloc_mark,<-x]
  exact List.getElem?_toArray (xs:=tokC [t]) (i:=j)
 obtain⟨v',o,H,B,v,-⟩:=run_append_own (P:=Tryz.prog) (W.alloc (.cells #[.string t.n,.int .i64 t.l,.int .i64 t.a] 58)) w.heap.size 22 22 58 I _ 3 32 Tryz.underlying22 C y z A rfl (by decide) _ G.ts.length _ d.own.tok ⟨W.heap.size,0,none⟩ 1 1 (tokC [t]) rfl r
  (fun u x=>by simp[tokC]at x;rcases x with rfl | rfl | rfl <;> rfl) (by unfold maxLen;omega) (by omega) (by have:=d.bel.size;exact this)
 obtain⟨f,c,rfl,-⟩:=zh B
 have b:o.heap[m]?=some (.cells (uah h G) 25 (0,0)):=by
  rw[v.block m (Array.getElem?_eq_some_iff.1 d.box).1 (fun e=>vk d.own.tok d.box (by decide) e.symm)]
  exact d.box
 have E:OwnG o w.heap.size ⟨f,c,h.ra,h.rc⟩ ⟨G.ts++[t],G.s,G.e,G.rs⟩ qs:=by
  refine⟨?_,uaf d.own.tok d.own.rul (by decide) v,g.own.map,fun q F=>uaf d.own.tok (d.own.row q F) (by decide) v⟩
  simp only
  rw[qe1,List.length_append]
  exact B
 refine⟨f,_,c,o,H,rfl,b,?_,E.box b (by decide) (by decide) (by decide),?_,g.new⟩
 ·have:(uah h G).setIfInBounds 0 (.slice f (G.ts.length+1) c)=uah ⟨f,c,h.ra,h.rc⟩ ⟨G.ts++[t],G.s,G.e,G.rs⟩:=by
   unfold uah
   simp
  rw[setCell_eq_setRow o m 0 _ 25 (0,0) _ b,this]
  exact setRow_heap _ _ _ _ 25 _ b
 ·exact(d.bel.grown v (d.bel.size) (fun k D=>(World.ownsRow.lt d.own.tok k D).1)).setCell (p:=⟨m,0,none⟩) g.new _
theorem GB.addRule{w W:World}{t:Nat}{h:Hd}{G:Gm}{qs:List (Ru × Option Addr × Nat)}(g:GB w W t h G qs)(O:G.rs.length<=1000)(r:Ru)(d:Option Addr)(f m:Nat)(M:OwnS W w.heap.size (.slice d m f) r.r)(I:m=r.r.length):
  ∃o n c v,(Builtin.append_ #[23,23] 23 #[.slice h.ra G.rs.length h.rc,.slice (some ⟨W.heap.size,0,none⟩) 1 1]).run Tryz.prog (W.alloc (.cells #[.string r.l,.slice d m f,.string r.p] 55))=.ok (.slice o n c) v/\n=G.rs.length+1/\v.heap[t]?=some (.cells (uah h G) 25 (0,0)) /\
   GB w (v.setCell ⟨t,3,none⟩ (.slice o n c)) t ⟨h.ta,h.tc,o,c⟩ ⟨G.ts,G.s,G.e,G.rs++[r]⟩ (qs++[(r,d,f)]):=by
 subst I
 obtain⟨N,F,B,C,D⟩:=info_parts Tryz.info55
 have a:=g.step (qb W (.cells #[.string r.l,.slice d r.r.length f,.string r.p] 55))
 have A:=M.below (qb W (.cells #[.string r.l,.slice d r.r.length f,.string r.p] 55))
 have x:∀j u,(rulC [(r,d,f)])[j]?=some u->(W.alloc (.cells #[.string r.l,.slice d r.r.length f,.string r.p] 55)).cell? ((⟨W.heap.size,0,none⟩:Addr).add j)=some u:=by
  intro j u z
  rw[Addr.add_lit,Nat.zero_add,World.cell?_alloc_mark,<-z]
  exact List.getElem?_toArray (xs:=rulC [(r,d,f)]) (i:=j)
 obtain⟨v',v,L,E,y,-⟩:=run_append_own (P:=Tryz.prog) (W.alloc (.cells #[.string r.l,.slice d r.r.length f,.string r.p] 55)) w.heap.size 23 23 55 N _ 3 56 Tryz.underlying23 F B C D rfl (by decide) _ G.rs.length _ a.own.rul ⟨W.heap.size,0,none⟩ 1 1 (rulC [(r,d,f)]) rfl x
  (fun u z=>by simp[rulC]at z;rcases z with rfl | rfl | rfl <;> rfl) (by unfold maxLen;omega) (by omega) (by have:=a.bel.size;exact this)
 obtain⟨o,c,rfl,-⟩:=zh E
 have b:v.heap[t]?=some (.cells (uah h G) 25 (0,0)):=by
  rw[y.block t (Array.getElem?_eq_some_iff.1 a.box).1 (fun e=>vk a.own.rul a.box (by decide) e.symm)]
  exact a.box
 have J:OwnG v w.heap.size ⟨h.ta,h.tc,o,c⟩ ⟨G.ts,G.s,G.e,G.rs++[r]⟩ (qs++[(r,d,f)]):=by
  refine⟨uaf a.own.rul a.own.tok (by decide) y,?_,?_,fun q K=>?_⟩
  ·simp only
   rw[qe2,List.length_append]
   exact E
  ·simp only
   rw[List.map_append,g.own.map]
   rfl
  ·rcases List.mem_append.1 K with h4 | h4
   ·exact uaf a.own.rul (a.own.row q h4) (by decide) y
   ·rw[List.mem_singleton]at h4
    subst h4
    exact uaf a.own.rul A (by decide) y
 refine⟨o,_,c,v,L,rfl,b,?_,J.box b (by decide) (by decide) (by decide),?_,g.new⟩
 ·have:(uah h G).setIfInBounds 3 (.slice o (G.rs.length+1) c)=uah ⟨h.ta,h.tc,o,c⟩ ⟨G.ts,G.s,G.e,G.rs++[r]⟩:=by
   unfold uah
   simp
  rw[setCell_eq_setRow v t 3 _ 25 (0,0) _ b,this]
  exact setRow_heap _ _ _ _ 25 _ b
 ·exact(a.bel.grown y (a.bel.size) (fun k H=>(World.ownsRow.lt a.own.rul k H).1)).setCell (p:=⟨t,3,none⟩) g.new _
theorem ucp(w W:World)(s:ByteArray)(e:Int)(a:Below w.heap.size w W):GB w (W.alloc (.cells #[.slice none 0 0,.string s,.int .i64 e,.slice none 0 0] 25)) W.heap.size ⟨none,0,none,0⟩ ⟨[],s,e,[]⟩ [] :=
 ⟨heap_alloc_new _ _,⟨World.ownsRow_nil _ _ _ _,World.ownsRow_nil _ _ _ _,rfl,fun q h=>(by cases h)⟩,qd a (qb _ _),a.size⟩
theorem uai{α:Type}(f:Nat->α)(n i:Nat)(x:α)(h:((List.range n).map f)[i]?=some x):i<n/\x=f i:=by
 rw[List.getElem?_map]at h
 obtain⟨y,c,rfl⟩:=Option.map_eq_some_iff.1 h
 obtain⟨a,b⟩:=List.getElem?_eq_some_iff.1 c
 rw[List.length_range]at a
 rw[List.getElem_range]at b
 subst b
 exact⟨a,rfl⟩
end Go.Proofs.YtngclmglmhiljaaGreatDoor
namespace Go.Proofs.YtngclmglmhiljaaGreatDoor
open Go.RowKit Go.ChangeShapes Go.WideShapes
structure RawS (w:World) (ao:Option Addr) (n cap:Nat) (l:List ByteArray):Prop where
 len:n=l.length
 le:n<=cap/\cap<=9223372036854775807
 get:∀(i:Nat) (s:ByteArray),l[i]?=some s->∃b o,ao=some ⟨b,o,none⟩/\w.cell? ⟨b,o+i,none⟩=some (.string s)
structure RawG (w:World) (h:Hd) (G:Gm):Prop where
 tl:G.ts.length<=h.tc/\h.tc<=9223372036854775807
 rl:G.rs.length<=h.rc/\h.rc<=9223372036854775807
 tok:∀(i:Nat) (t:Tk),G.ts[i]?=some t->∃b o,h.ta=some ⟨b,o,none⟩/\w.cell? ⟨b,o+i * 3,none⟩=some (.string t.n)/\w.cell? ⟨b,o+i * 3+1,none⟩=some (.int .i64 t.l)/\w.cell? ⟨b,o+i * 3+2,none⟩=some (.int .i64 t.a)
 rul:∀(i:Nat) (r:Ru),G.rs[i]?=some r->∃b o xa xc,h.ra=some ⟨b,o,none⟩/\w.cell? ⟨b,o+i * 3,none⟩=some (.string r.l)/\w.cell? ⟨b,o+i * 3+1,none⟩=some (.slice xa r.r.length xc)/\w.cell? ⟨b,o+i * 3+2,none⟩=some (.string r.p)/\RawS w xa r.r.length xc r.r
theorem RawS.below{w f:World}{d:Option Addr}{n a:Nat}{l:List ByteArray}(h:RawS w d n a l)(g:Below w.heap.size w f):RawS f d n a l :=
 ⟨h.len,h.le,fun i s j=>by obtain⟨b,o,e,c⟩:=h.get i s j;exact⟨b,o,e,qj g c⟩⟩
theorem RawG.below{w c:World}{h:Hd}{G:Gm}(g:RawG w h G)(a:Below w.heap.size w c):RawG c h G :=
 ⟨g.tl,g.rl,fun i t j=>by obtain⟨b,o,e,c0,c1,c2⟩:=g.tok i t j;exact⟨b,o,e,qj a c0,qj a c1,qj a c2⟩,
  fun i r f=>by obtain⟨b,o,k,l,e,c0,c1,c2,d⟩:=g.rul i r f;exact⟨b,o,k,l,e,qj a c0,qj a c1,qj a c2,d.below a⟩⟩
theorem ubm{H:Type}{enc:TypeId × Value->H}{W:World}{fuel:Nat}{cs:List Value}{x:DataW H × List MemPlace}(h:DataW.trod enc Tryz.prog W 0 (fun _=>true) true fuel 28 cs=some x):
  ∃(j:Option Addr) (n c:Nat) (l:List ByteArray),cs=[.slice j n c]/\RawS W j n c l:=by
 rcases Go.Deep.open_strs Tryz.underlying28 Tryz.underlying9 (by kernel_rfl) h with ⟨hcs,_⟩ | ⟨a,len,c,m,Sx,hcs,_,hl,hm,hmm,_,hx⟩
 ·exact⟨none,0,0,[],hcs,rfl,⟨Nat.le_refl _,by omega⟩,fun i s g=>by cases g⟩
 ·refine⟨some a,len,c,(List.range len).map Sx,hcs,by simp,⟨hl,by unfold maxLen at hm;omega⟩,fun i s g=>?_⟩
  obtain⟨q,rfl⟩:=uai Sx len i s g
  have p:m=c:=by simpa using hmm
  have k:=(hx i (by omega)).1
  have o:=(hx 0 (by omega)).1
  obtain⟨b,off,f⟩:=a
  have d:f=none:=by simpa [Addr.add] using World.cell?_spot o
  subst d
  rw[Addr.add_lit]at k
  exact⟨b,off,rfl,k⟩
theorem ubf:Tryz.prog.underlying 55=some (.struct #[⟨"Left", 9,0,false, "", "", 0⟩,⟨"Right", 28,1,false, "", "", 16⟩,⟨"Prec", 9,2,false, "", "", 40⟩]):=by kernel_rfl
theorem ubn:Tryz.prog.underlying 58=some (.struct #[⟨"Name", 9,0,false, "", "", 0⟩,⟨"Level", 3,1,false, "", "", 16⟩,⟨"Assoc", 3,2,false, "", "", 24⟩]):=by kernel_rfl
theorem c9:Tryz.prog.cellsOf 9=1:=by kernel_rfl
theorem c3':Tryz.prog.cellsOf 3=1:=by kernel_rfl
theorem c37:Tryz.prog.cellsOf 28=1:=by kernel_rfl
theorem c35:Tryz.prog.cellsOf 58=3:=by kernel_rfl
theorem c39:Tryz.prog.cellsOf 55=3:=by kernel_rfl
theorem c22:Tryz.prog.cellsOf 22=1:=by kernel_rfl
theorem c23:Tryz.prog.cellsOf 23=1:=by kernel_rfl
theorem c25:Tryz.prog.cellsOf 25=4:=by kernel_rfl
theorem ua0{W:World}{a:Addr}{i:Nat}{cs:List Value}(h:W.cells? 0 (a.add (i * 3)) 3=some cs):∃v0 v1 v2,cs=[v0,v1,v2]/\W.cell? (a.add (i * 3))=some v0/\W.cell? (a.add (i * 3+1))=some v1/\W.cell? (a.add (i * 3+2))=some v2:=by
 obtain⟨_,c,b⟩:=World.cells?_some h
 match cs,c with
 | [v0,v1,v2],_ =>
  have e0:=b 0 (by omega)
  have d:=b 1 (by omega)
  have f:=b 2 (by omega)
  rw[Go.Deep.add_add]at e0 d f
  exact⟨v0,v1,v2,rfl,by simpa using e0,by simpa using d,by simpa using f⟩
theorem ubz{H:Type}{enc:TypeId × Value->H}{W:World}{fuel:Nat}{cs:List Value}{x:DataW H × List MemPlace}(h:DataW.trod enc Tryz.prog W 0 (fun _=>true) true fuel 22 cs=some x):
  ∃(q:Option Addr) (n c:Nat) (ts:List Tk),cs=[.slice q n c]/\n=ts.length/\(n<=c/\c<=9223372036854775807) /\
   ∀(i:Nat) (t:Tk),ts[i]?=some t->∃b o,q=some ⟨b,o,none⟩/\W.cell? ⟨b,o+i * 3,none⟩=some (.string t.n)/\W.cell? ⟨b,o+i * 3+1,none⟩=some (.int .i64 t.l)/\W.cell? ⟨b,o+i * 3+2,none⟩=some (.int .i64 t.a):=by
 rcases Go.Deep.open_slice Tryz.underlying22 h with ⟨hcs,_⟩ | ⟨a,len,c,m,n,D,Pl,hcs,_,hl,hm,hmm,_,hx⟩
 ·exact⟨none,0,0,[],hcs,rfl,⟨Nat.le_refl _,by omega⟩,fun i s p=>by cases p⟩
 ·have M:m=c:=by simpa using hmm
  rw[c35]at hx
  have g:∀i,i<len->∃t:Tk,W.cell? (a.add (i * 3))=some (.string t.n)/\W.cell? (a.add (i * 3+1))=some (.int .i64 t.l)/\W.cell? (a.add (i * 3+2))=some (.int .i64 t.a):=fun i B=>by
   obtain⟨G,K,L⟩:=hx i (by omega)
   obtain⟨v0,v1,v2,rfl,e0,I,J⟩:=ua0 K
   obtain⟨Q,R,S,k,_,_,r,u,v⟩:=Go.Deep.trod_struct3 ubn L
   simp[c9,c3']at r u v
   obtain⟨s,p,-⟩:=DataW.trod_string Tryz.underlying9 r
   obtain⟨O,y,-⟩:=DataW.trod_int Tryz.underlying3 u
   obtain⟨P,z,-⟩:=DataW.trod_int Tryz.underlying3 v
   simp only[List.cons.injEq,and_true]at p y z
   exact⟨⟨s,O,P⟩,by rw[e0,p],by rw[I,y],by rw[J,z]⟩
  haveI:Inhabited Tk:=⟨⟨⟨#[]⟩,0,0⟩⟩
  obtain⟨f,A⟩:=Go.Deep.choose_lt g
  refine⟨some a,len,c,(List.range len).map f,hcs,by simp,⟨hl,by unfold maxLen at hm;omega⟩,fun i t N=>?_⟩
  obtain⟨B,rfl⟩:=uai f len i t N
  obtain⟨C,E,F⟩:=A i B
  obtain⟨b,off,j⟩:=a
  have d:j=none:=by simpa [Addr.add] using World.cell?_spot (A 0 (by omega)).1
  subst d
  rw[Addr.add_lit]at C E F
  exact⟨b,off,rfl,C,E,F⟩
theorem ub0{H:Type}{enc:TypeId × Value->H}{W:World}{fuel:Nat}{cs:List Value}{x:DataW H × List MemPlace}(h:DataW.trod enc Tryz.prog W 0 (fun _=>true) true fuel 23 cs=some x):
  ∃(A:Option Addr) (n c:Nat) (rs:List Ru),cs=[.slice A n c]/\n=rs.length/\(n<=c/\c<=9223372036854775807) /\
   ∀(i:Nat) (r:Ru),rs[i]?=some r->∃b o d g,A=some ⟨b,o,none⟩/\W.cell? ⟨b,o+i * 3,none⟩=some (.string r.l)/\W.cell? ⟨b,o+i * 3+1,none⟩=some (.slice d r.r.length g)/\W.cell? ⟨b,o+i * 3+2,none⟩=some (.string r.p)/\RawS W d r.r.length g r.r:=by
 rcases Go.Deep.open_slice Tryz.underlying23 h with ⟨hcs,_⟩ | ⟨a,len,c,m,n,D,Pl,hcs,_,v,hm,hmm,_,hx⟩
 ·exact⟨none,0,0,[],hcs,rfl,⟨Nat.le_refl _,by omega⟩,fun i s y=>by cases y⟩
 ·have S:m=c:=by simpa using hmm
  rw[c39]at hx
  have q:∀i,i<len->∃r:Ru,∃d g,W.cell? (a.add (i * 3))=some (.string r.l)/\W.cell? (a.add (i * 3+1))=some (.slice d r.r.length g)/\W.cell? (a.add (i * 3+2))=some (.string r.p)/\RawS W d r.r.length g r.r:=fun i I=>by
   obtain⟨N,Q,R⟩:=hx i (by omega)
   obtain⟨v0,v1,v2,rfl,e0,O,P⟩:=ua0 Q
   obtain⟨Y,Z,y2,k,_,_,B,C,E⟩:=Go.Deep.trod_struct3 ubf R
   simp[c9,c37]at B C E
   obtain⟨s,y,-⟩:=DataW.trod_string Tryz.underlying9 B
   obtain⟨d,X,g,l,F,v⟩:=ubm C
   obtain⟨p,J,-⟩:=DataW.trod_string Tryz.underlying9 E
   simp only[List.cons.injEq,and_true]at y F J
   have z:=v.len
   subst z
   exact⟨⟨s,l,p⟩,d,g,by rw[e0,y],by rw[O,F],by rw[P,J],v⟩
  haveI:Inhabited Ru:=⟨⟨⟨#[]⟩,[],⟨#[]⟩⟩⟩
  obtain⟨f,G⟩:=Go.Deep.choose_lt q
  refine⟨some a,len,c,(List.range len).map f,hcs,by simp,⟨v,by unfold maxLen at hm;omega⟩,fun i t T=>?_⟩
  obtain⟨I,rfl⟩:=uai f len i t T
  obtain⟨d,g,K,L,M,U⟩:=G i I
  obtain⟨b,off,u⟩:=a
  have j:u=none:=by
   obtain⟨_,_,V,-⟩:=G 0 (by omega)
   simpa [Addr.add] using World.cell?_spot V
  subst j
  rw[Addr.add_lit]at K L M
  exact⟨b,off,d,g,rfl,K,L,M,U⟩
theorem ua1:Tryz.prog.underlying 25=some (.struct #[⟨"Tokens", 22,0,false, "", "", 0⟩,⟨"Start", 9,1,false, "", "", 24⟩,⟨"Expect", 3,2,false, "", "", 40⟩,⟨"Rules", 23,3,false, "", "", 48⟩]):=by kernel_rfl
theorem ubo{cs:Array Value}(h:cs.size=4):∃a b c d,cs=#[a,b,c,d]:=by
 match cs,h with
 | ⟨[a,b,c,d]⟩,_=>exact⟨a,b,c,d,rfl⟩
theorem ub1{H:Type}{enc:TypeId × Value->H}{W:World}{y:Nat}{v:Value}{d:DataW H}{A:List MemPlace}(i:Value.okWide Tryz.prog W .any y 25 v)(hd:DataW.Trod enc Tryz.prog W 0 (fun _=>true) true 25 v d A):∃h G,v=gv h G/\RawG W h G:=by
 obtain⟨cs,rfl,f⟩:=okWide_struct ua1 i
 rw[c25]at f
 obtain⟨fuel,z⟩:=hd
 obtain⟨xs,n,_,_,L,b,a⟩:=DataW.trod_struct ua1 z
 obtain⟨F,I,J,K,rfl⟩:=ubo f
 match xs,b with
 | [y0,y1,y2,y3],_ =>
  have p:=a 0 _ rfl
  have q:=a 1 _ rfl
  have r:=a 2 _ rfl
  have t:=a 3 _ rfl
  simp[Value.cells,c22,c9,c3',c23]at p q r t
  obtain⟨D,N,E,ts,e0,m,l,g⟩:=ubz p
  obtain⟨s,x,-⟩:=DataW.trod_string Tryz.underlying9 q
  obtain⟨e,u,-⟩:=DataW.trod_int Tryz.underlying3 r
  obtain⟨B,M,C,rs,o,k,j,c⟩:=ub0 t
  simp only[List.cons.injEq,and_true]at e0 x u o
  subst e0 x u o m k
  exact⟨⟨D,E,B,C⟩,⟨ts,s,e,rs⟩,rfl,l,j,g,c⟩
end Go.Proofs.YtngclmglmhiljaaGreatDoor
namespace Go.Proofs.YtngclmglmhiljaaGreatDoor
open Go.RowKit
def vu (t:Tk):Tk:=⟨cutS t.n 15,t.l,t.a⟩
def uab (r:Ru):Ru:=⟨cutS r.l 15,(r.r.take 22).map (fun x=>cutS x 15),cutS r.p 15⟩
def xp (G:Gm):Gm:=⟨(G.ts.take 42).map vu,cutS G.s 15,G.e,(G.rs.take 105).map uab⟩
theorem ub2(G:Gm):Small (xp G):=by
 have h:=fun s:ByteArray=>ubw s 15
 refine⟨?_,?_,by have:=h G.s;simp only[xp];omega,?_,?_⟩
 ·simp only[xp,List.length_map,List.length_take];omega
 ·simp only[xp,List.length_map,List.length_take];omega
 ·intro t b
  simp only[xp]at b
  obtain⟨u,-,rfl⟩:=List.mem_map.1 b
  have:=h u.n
  simp only[vu];omega
 ·intro r a
  simp only[xp]at a
  obtain⟨u,-,rfl⟩:=List.mem_map.1 a
  refine⟨by have:=h u.l;simp only[uab];omega,by have:=h u.p;simp only[uab];omega,by simp only[uab,List.length_map,List.length_take];omega,?_⟩
  intro x c
  simp only[uab]at c
  obtain⟨y,-,rfl⟩:=List.mem_map.1 c
  have:=h y
  omega
structure RC (w wr:World) (L P:ByteArray) (l:List ByteArray) (xa:Option Addr) (m xc:Nat):Prop where
 box:wr.heap[w.heap.size]?=some (.cells #[.string L,.slice xa m xc,.string P] 55 (0,0))
 own:OwnS wr (w.heap.size+1) (.slice xa m xc) l
 len:m=l.length
 bel:Below w.heap.size w wr
theorem RC.new(w:World)(L P:ByteArray):RC w (w.alloc (.cells #[.string L,.slice none 0 0,.string P] 55)) L P [] none 0 0 :=
 ⟨heap_alloc_new _ _,World.ownsRow_nil _ _ _ _,rfl,qb _ _⟩
theorem RC.step{w wr a:World}{L P:ByteArray}{l:List ByteArray}{c:Option Addr}{m d:Nat}(h:RC w wr L P l c m d)(b:Below wr.heap.size wr a):RC w a L P l c m d :=
 ⟨qf b h.box,h.own.below b,h.len,qd h.bel b⟩
theorem RC.add{w wr:World}{L P:ByteArray}{l:List ByteArray}{f:Option Addr}{m g:Nat}(h:RC w wr L P l f m g)(v:l.length<=1000)(s:ByteArray):
  ∃d n c b,(Builtin.append_ #[28,28] 28 #[.slice f m g,.slice (some ⟨wr.heap.size,0,none⟩) 1 1]).run Tryz.prog (wr.alloc (.cells #[.string s] 9))=.ok (.slice d n c) b/\b.heap[w.heap.size]?=some (.cells #[.string L,.slice f m g,.string P] 55 (0,0))/\RC w (b.setCell ⟨w.heap.size,1,none⟩ (.slice d n c)) L P (l++[s]) d n c:=by
 have j:w.heap.size<wr.heap.size:=(Array.getElem?_eq_some_iff.1 h.box).1
 obtain⟨d,n,c,b,u,t,o,k⟩:=(h.own.below (qb wr (.cells #[.string s] 9))).addRow (vx wr [s] (by simp)) (by simp;omega) (by simp;omega) rfl
 have a:b.heap[w.heap.size]?=some (.cells #[.string L,.slice f m g,.string P] 55 (0,0)):=by
  rw[k.block _ (by omega),Below.heap_alloc _ _ _ j]
  exact h.box
 refine⟨d,n,c,b,u,a,?_,?_,t,?_⟩
 ·rw[setCell_eq_setRow b w.heap.size 1 _ 55 (0,0) _ a]
  exact setRow_heap _ _ _ _ 55 _ a
 ·refine qh o (fun i r=>Below.heap_setCell _ _ _ _ (fun e=>?_))
  simp only at e
  have:=(World.ownsRow.lt o i r).1
  omega
 ·have q:Below w.heap.size w b:=(qd h.bel (qb wr _)).trans (k.mono (by omega))
  exact q.setCell (p:=⟨w.heap.size,1,none⟩) (Nat.le_refl _) _
theorem ubp(G:Gm)(h:Hd)(w:World)(A:RawG w h G):Calls Tryz.prog 11 #[gv h G] w fun e R=>∃h' qs,e=.returned (gv h' (xp G))/\OwnG R w.heap.size h' (xp G) qs/\Below w.heap.size w R:=by
 obtain⟨ts,a,d,rs⟩:=G
 obtain⟨ta,X,ra,P⟩:=h
 unfold gv
 simp only
 have HG:Hid (RawG w ⟨ta,X,ra,P⟩ ⟨ts,a,d,rs⟩):=A
 clear A
 have HR:Hid (RawG ((w.alloc (.cells #[.slice ta ts.length X,.string a,.int .i64 d,.slice ra rs.length P] 25)).alloc (.cells #[.slice none 0 0,.string ⟨#[]⟩,.int .i64 0,.slice none 0 0] 25)) ⟨ta,X,ra,P⟩ ⟨ts,a,d,rs⟩):=HG.out.below (qd (qb _ _) (qb _ _))
 have HB:Hid (Below w.heap.size w ((w.alloc (.cells #[.slice ta ts.length X,.string a,.int .i64 d,.slice ra rs.length P] 25)).alloc (.cells #[.slice none 0 0,.string ⟨#[]⟩,.int .i64 0,.slice none 0 0] 25))):=qd (qb _ _) (qb _ _)
 have Z:((w.alloc (.cells #[.slice ta ts.length X,.string a,.int .i64 d,.slice ra rs.length P] 25)).alloc (.cells #[.slice none 0 0,.string ⟨#[]⟩,.int .i64 0,.slice none 0 0] 25)).heap[w.heap.size]?=some (.cells #[.slice ta ts.length X,.string a,.int .i64 d,.slice ra rs.length P] 25 (0,0)):=qf (qb _ _) (heap_alloc_new _ _)
 have B:((w.alloc (.cells #[.slice ta ts.length X,.string a,.int .i64 d,.slice ra rs.length P] 25)).alloc (.cells #[.slice none 0 0,.string ⟨#[]⟩,.int .i64 0,.slice none 0 0] 25)).heap[w.heap.size+1]?=some (.cells #[.slice none 0 0,.string ⟨#[]⟩,.int .i64 0,.slice none 0 0] 25 (0,0)):=by
  have:=heap_alloc_new (w.alloc (.cells #[.slice ta ts.length X,.string a,.int .i64 d,.slice ra rs.length P] 25)) (.cells #[.slice none 0 0,.string ⟨#[]⟩,.int .i64 0,.slice none 0 0] 25)
  rwa [qt]at this
 have b9:((w.alloc (.cells #[.slice ta ts.length X,.string a,.int .i64 d,.slice ra rs.length P] 25)).alloc (.cells #[.slice none 0 0,.string ⟨#[]⟩,.int .i64 0,.slice none 0 0] 25)).heap.size=w.heap.size+1+1:=by rw[qt,qt]
 have HL:Hid (ts.length<=X/\X<=9223372036854775807/\rs.length<=P/\P<=9223372036854775807):=⟨HG.out.tl.1,HG.out.tl.2,HG.out.rl.1,HG.out.rl.2⟩
 clear HG
 generalize d6:ts.length=tn at *
 generalize d5:rs.length=V at *
 have HT:Hid (ts.length=tn/\rs.length=V):=⟨d6,d5⟩
 clear d6 d5
 go_enter Tryz.func11,Tryz.ntmps11
 go_upto_region 1 with fail
 generalize (w.alloc (.cells #[.slice ta tn X,.string a,.int .i64 d,.slice ra V P] 25)).alloc (.cells #[.slice none 0 0,.string ⟨#[]⟩,.int .i64 0,.slice none 0 0] 25)=W at HR HB Z B b9 ⊢
 obtain⟨g,a6⟩:∃g,g=w.heap.size:=⟨_,rfl⟩
 have HN:Hid (g=w.heap.size/\W.heap.size=g+1+1):=⟨a6,by rw[a6];exact b9⟩
 rw[<-a6]at Z B ⊢
 clear b9
 have HX:Hid (W.heap[g]?=some (.cells #[.slice ta tn X,.string a,.int .i64 d,.slice ra V P] 25 (0,0))/\W.heap[g+1]?=some (.cells #[.slice none 0 0,.string ⟨#[]⟩,.int .i64 0,.slice none 0 0] 25 (0,0))):=⟨Z,B⟩
 have x1:W.cell? ⟨g,1,none⟩=some (.string a):=by rw[qe Z];rfl
 have x2:W.cell? ⟨g,2,none⟩=some (.int .i64 d):=by rw[qe Z];rfl
 clear Z B a6
 obtain⟨z,a5⟩:∃z,z=W.heap.size:=⟨_,rfl⟩
 have g8:Hid (z=W.heap.size):=a5
 go_cut [3] (fun s wd=>s=.pointer (some ⟨z,0,none⟩)/\Hid (GB W wd z ⟨none,0,none,0⟩ ⟨[],cutS a 15,d,[]⟩ []))
 case first =>
  go_region_held (fun R=>R.cell? ⟨g,1,none⟩=some (.string a)/\R.cell? ⟨g,2,none⟩=some (.int .i64 d)) (go_keep) (first | (go_at_call 34;refine(uae a 15 _).mono ?_;rintro e R ⟨rfl,rfl⟩))
  all_goals
   go_wp2_with fail
   go_meet
   refine⟨by rw[a5],?_⟩
   rw[a5]
   exact(ucp W W (cutS a 15) d (Below.refl _ _)).step (qk _)
 case rest =>
  obtain⟨rfl,J0⟩:=hcut
  obtain⟨w3,i2⟩:∃w3,w3=wc:=⟨_,rfl⟩
  subst wc
  clear a5 x1 x2
  have h8:=HL.out.1
  have h9:=HL.out.2.1
  have i0:=HL.out.2.2.1
  have i1:=HL.out.2.2.2
  go_upto_block 0 with fail
  go_cut [4] (fun s4 wd=>Hid (∃h,GB W wd z h ⟨(ts.take 42).map vu,cutS a 15,d,[]⟩ []))
  case first =>
   go_wp2_with fail
   go_loopg [4] tn (fun kx s4 wr=>∃i:Nat,s4=.int .i64 i/\i<=tn/\i<=42/\tn - i<=kx/\Hid (∃h,GB W wr z h ⟨(ts.take i).map vu,cutS a 15,d,[]⟩ []))
   case atStart=>exact⟨0,rfl,Nat.zero_le _,Nat.zero_le _,by omega,(⟨_,J0.out⟩:∃h,GB W w3 z h ⟨(ts.take 0).map vu,cutS a 15,d,[]⟩ [])⟩
   case round =>
    obtain⟨i,rfl,hi,g6,hg,J⟩:=hrel
    clear J0
    obtain⟨⟨Y,k1,T,U⟩,A⟩:=J.out
    have x0:wr.cell? ⟨g,0,none⟩=some (.slice ta tn X):=qj A.bel (by rw[qe HX.out.1];rfl)
    have m:((ts.take i).map vu).length=i:=by rw[List.length_map,List.length_take,HT.out.1];omega
    by_cases M:i<tn
    ·by_cases h6:i<42
     ·have N:(i:Int)<(tn:Int):=by omega
      have d9:(i:Int)<42:=by omega
      obtain⟨t,ht⟩:∃t,ts[i]?=some t:=⟨ts[i]'(by rw[HT.out.1];exact M),List.getElem?_eq_getElem _⟩
      obtain⟨b,o,f9,c0,c1,c2⟩:=(HR.out.below A.bel).tok i t ht
      simp only at f9
      subst f9
      obtain⟨a0,tl,tA⟩:=t
      simp only at c0 c1 c2
      have f2:=A.step (qb wr (.cells #[.string (cutS a0 15),.int .i64 tl,.int .i64 tA] 58))
      obtain⟨e0,-,-,-,-⟩:=A.cells
      simp only[m]at e0
      have g9:=qo e0 (.cells #[.string (cutS a0 15),.int .i64 tl,.int .i64 tA] 58)
      obtain⟨ao,n,c,w5,l,hn,f,f4⟩:=f2.addTok (by simp only;rw[m];omega) ⟨cutS a0 15,tl,tA⟩
      simp only[m,qt]at l
      have d0:w5.cell? ⟨z,0,none⟩=some (.slice Y i k1):=by rw[qe f];show some (Value.slice Y ((ts.take i).map vu).length k1)=_;rw[m]
      have f0:w5.frozen? ⟨z,0,none⟩=false:=qi f 0
      have y:Hid (∃h,GB W (w5.setCell ⟨z,0,none⟩ (.slice ao n c)) z h ⟨(ts.take (i+1)).map vu,cutS a 15,d,[]⟩ []):=by
       have e:(ts.take (i+1)).map vu=(ts.take i).map vu++[vu ⟨a0,tl,tA⟩]:=by rw[zn ht,List.map_append];rfl
       rw[e]
       exact⟨_,f4⟩
      clear A f2 f4 f J hn m ht
      go_wp2_with fail
      refine(uae a0 15 _).mono ?_
      rintro e R ⟨rfl,rfl⟩
      generalize cutS a0 15=nm at *
      go_wp2_with(at_builtin;refine Lib.wpList_append_run _ rfl _ _ _ _ rfl _ _ rfl rfl _ _ l ?_)
      go_roundg (tn - (i+1))
      case measure=>omega
      case rel=>exact⟨i+1,by simp,by omega,by omega,Nat.le_refl _,y⟩
     ·have N:(i:Int)<(tn:Int):=by omega
      have d9:¬(i:Int)<42:=by omega
      have y:Hid (∃h,GB W wr z h ⟨(ts.take 42).map vu,cutS a 15,d,[]⟩ []):=by
       have:i=42:=by omega
       subst this
       exact J.out
      clear A J m
      go_wp2_with fail
      go_meet
      exact y
    ·have N:¬(i:Int)<(tn:Int):=by omega
     have y:Hid (∃h,GB W wr z h ⟨(ts.take 42).map vu,cutS a 15,d,[]⟩ []):=by
      have e:ts.take 42=ts.take i:=by rw[List.take_of_length_le (by rw[HT.out.1];omega),List.take_of_length_le (by rw[HT.out.1];omega)]
      rw[e]
      exact J.out
     clear A J m
     go_wp2_with fail
     go_meet
     exact y
  case rest =>
   obtain⟨w4,i5⟩:∃w4,w4=wc:=⟨_,rfl⟩
   subst wc
   obtain⟨h4,f5⟩:=hcut.out
   have b1:Hid (∃h qs,GB W w4 z h ⟨(ts.take 42).map vu,cutS a 15,d,[]⟩ qs):=⟨h4,[],f5⟩
   clear hcut f5 J0
   go_upto_block 2 with fail
   go_cut [6] (fun s6 wd=>Hid (∃h qs,GB W wd z h (xp ⟨ts,a,d,rs⟩) qs))
   case first =>
    go_wp2_with fail
    go_loopg [6] V (fun kx s6 wr=>∃i:Nat,s6=.int .i64 i/\i<=V/\i<=105/\V - i<=kx/\Hid (∃h qs,GB W wr z h ⟨(ts.take 42).map vu,cutS a 15,d,(rs.take i).map uab⟩ qs))
    case atStart=>exact⟨0,rfl,Nat.zero_le _,Nat.zero_le _,by omega,b1⟩
    case round =>
     obtain⟨i,rfl,hi,g3,hg,J⟩:=hrel
     clear b1
     obtain⟨⟨Y,k1,T,U⟩,qs,A⟩:=J.out
     have x3:wr.cell? ⟨g,3,none⟩=some (.slice ra V P):=qj A.bel (by rw[qe HX.out.1];rfl)
     by_cases M:i<V
     ·by_cases g5:i<105
      ·have N:(i:Int)<(V:Int):=by omega
       have b4:(i:Int)<105:=by omega
       obtain⟨r,hr⟩:∃r,rs[i]?=some r:=⟨rs[i]'(by rw[HT.out.2];exact M),List.getElem?_eq_getElem _⟩
       obtain⟨b,o,xa,xc,f8,c0,c1,c2,a7⟩:=(HR.out.below A.bel).rul i r hr
       simp only at f8
       subst f8
       obtain⟨H,C,I⟩:=r
       simp only at c0 c1 c2 a7
       obtain⟨L,k0⟩:∃L,L=wr:=⟨_,rfl⟩
       subst wr
       have g1:Hid (RawS L xa C.length xc C):=a7
       have g0:Hid (rs[i]?=some ⟨H,C,I⟩):=hr
       have c4:Hid (GB W L z ⟨Y,k1,T,U⟩ ⟨(ts.take 42).map vu,cutS a 15,d,(rs.take i).map uab⟩ qs):=A
       have c3:Hid (L.cell? ⟨g,3,none⟩=some (.slice (some ⟨b,o,none⟩) V P)/\L.cell? ⟨b,o+i * 3+1,none⟩=some (.slice xa C.length xc)):=⟨x3,c1⟩
       have k3:=a7.le
       clear a7 hr A J c1
       generalize d7:C.length=S at *
       have a4:Hid (C.length=S):=d7
       clear d7
       go_upto_region 11 with fail
       go_cut [7] from 41 to 102 (fun s wd=>s=.pointer (some ⟨L.heap.size,0,none⟩)/\Hid (RC L wd (cutS H 15) (cutS I 15) [] none 0 0))
       case first =>
        go_region_held (fun R=>R.cell? ⟨g,3,none⟩=some (.slice (some ⟨b,o,none⟩) V P)/\R.cell? ⟨b,o+i * 3,none⟩=some (.string H)/\R.cell? ⟨b,o+i * 3+2,none⟩=some (.string I)) (go_keep)
         (first | (go_at_call_of 34 (Value.string H);refine(uae H 15 _).mono ?_;rintro e R ⟨rfl,rfl⟩) | (go_at_call_of 34 (Value.string I);refine(uae I 15 _).mono ?_;rintro e R ⟨rfl,rfl⟩))
        all_goals
         go_wp2_with fail
         go_meet
         exact⟨rfl,(RC.new L (cutS H 15) (cutS I 15)).step (qk _)⟩
       case rest =>
        obtain⟨rfl,R0⟩:=hcut
        obtain⟨w5,i6⟩:∃w5,w5=wc:=⟨_,rfl⟩
        subst wc
        clear c0 c2 x3
        obtain⟨rb,b8⟩:∃rb,rb=L.heap.size:=⟨_,rfl⟩
        have Q:Hid (rb=L.heap.size):=b8
        rw[<-b8]
        clear b8
        go_upto_block 4 with fail
        go_cut [8] from 41 to 102 (fun s8 wd=>Hid (∃D E,RC L wd (cutS H 15) (cutS I 15) ((C.take 22).map (fun x=>cutS x 15)) D (min S 22) E))
        case first =>
         go_wp2_with fail
         go_loopg [8] S (fun kx s8 wr=>∃k:Nat,s8=.int .i64 k/\k<=S/\k<=22/\S - k<=kx/\Hid (∃D E,RC L wr (cutS H 15) (cutS I 15) ((C.take k).map (fun x=>cutS x 15)) D k E))
         case atStart=>exact⟨0,rfl,Nat.zero_le _,Nat.zero_le _,by omega,(⟨_,_,R0.out⟩:∃D E,RC L w5 (cutS H 15) (cutS I 15) ((C.take 0).map (fun x=>cutS x 15)) D 0 E)⟩
         case round =>
          obtain⟨k,rfl,hk,g7,h7,K⟩:=hrel
          clear R0
          obtain⟨D,E,O⟩:=K.out
          have q3:=qj O.bel c3.out.1
          have q1:=qj O.bel c3.out.2
          by_cases f7:k<S
          ·by_cases h5:k<22
           ·have a3:(k:Int)<(S:Int):=by omega
            have d8:(k:Int)<22:=by omega
            obtain⟨s,hs⟩:∃s,C[k]?=some s:=⟨C[k]'(by rw[a4.out];exact f7),List.getElem?_eq_getElem _⟩
            obtain⟨b2,o2,g4,k5⟩:=(g1.out.below O.bel).get k s hs
            subst g4
            have p1:wr.cell? ⟨rb,1,none⟩=some (.slice D k E):=by rw[Q.out,qe O.box];rfl
            have b3:((C.take k).map (fun x=>cutS x 15)).length=k:=by rw[List.length_map,List.length_take,a4.out];omega
            obtain⟨ao,n,c,w6,l,f,b6⟩:=(O.step (qk wr)).add (by rw[b3];omega) (cutS s 15)
            have F:(Builtin.append_ #[28,28] 28 #[.slice D k E,.slice (some ⟨wr.heap.size,0,none⟩) 1 1]).run Tryz.prog (wr.alloc (.cells #[.string (cutS s 15)] 9)).drew=.ok (.slice ao n c) w6:=l
            have d1:w6.cell? ⟨rb,1,none⟩=some (.slice D k E):=by rw[Q.out,qe f];rfl
            have f1:w6.frozen? ⟨rb,1,none⟩=false:=by rw[Q.out];exact qi f 1
            have y:Hid (∃D E,RC L (w6.setCell ⟨rb,1,none⟩ (.slice ao n c)) (cutS H 15) (cutS I 15) ((C.take (k+1)).map (fun x=>cutS x 15)) D (k+1) E):=by
             have e:(C.take (k+1)).map (fun x=>cutS x 15)=(C.take k).map (fun x=>cutS x 15)++[cutS s 15]:=by rw[zn hs,List.map_append];rfl
             have hn:n=k+1:=by have:=b6.len;rw[List.length_append,b3]at this;exact this
             subst hn
             rw[e,Q.out]
             exact⟨ao,c,b6⟩
            clear O f b6 l K b3 hs
            go_upto_block 5 with fail
            go_cut [95] from 67 to 96 (fun s95 wd=>Hid (∃D E,RC L wd (cutS H 15) (cutS I 15) ((C.take (k+1)).map (fun x=>cutS x 15)) D (k+1) E))
            case first =>
             go_wp2_with fail
             have CC:Hid (∀W:World,Calls Tryz.prog 34 #[.string s,.int .i64 15] W fun e R=>e=.returned (.string (cutS s 15))/\R=W):=fun W=>uae s 15 W
             generalize cutS s 15=cs at F CC
             have k4:=qo p1 (.cells #[.string cs] 9)
             go_region_law(first | (refine zc rfl (.tmp 83) (.tmp 94) rfl rfl (by simp[Act.eval]) (by simp[Act.eval]) F ?_) | (refine qcz rfl 34 #[.string s,.int .i64 15] (.string cs) (by simp[Act.eval,go_sem]) (CC.out _) ?_))
             all_goals (go_wp2_with fail;go_meet;exact y)
            case rest =>
             go_wp2_with fail
             go_roundg (S - (k+1))
             case measure=>omega
             case rel=>exact⟨k+1,by simp,by omega,by omega,Nat.le_refl _,hcut⟩
           ·have a3:(k:Int)<(S:Int):=by omega
            have d8:¬(k:Int)<22:=by omega
            have y:Hid (∃D E,RC L wr (cutS H 15) (cutS I 15) ((C.take 22).map (fun x=>cutS x 15)) D (min S 22) E):=by
             have:k=22:=by omega
             subst this
             have e:min S 22=22:=by omega
             rw[e]
             exact K.out
            clear O K
            go_wp2_with fail
            go_meet
            exact y
          ·have a3:¬(k:Int)<(S:Int):=by omega
           have y:Hid (∃D E,RC L wr (cutS H 15) (cutS I 15) ((C.take 22).map (fun x=>cutS x 15)) D (min S 22) E):=by
            have e1:C.take 22=C.take k:=by rw[List.take_of_length_le (by rw[a4.out];omega),List.take_of_length_le (by rw[a4.out];omega)]
            have e:min S 22=k:=by omega
            rw[e1,e]
            exact K.out
           clear O K
           go_wp2_with fail
           go_meet
           exact y
        case rest =>
         obtain⟨w7,i7⟩:∃w7,w7=wc:=⟨_,rfl⟩
         subst wc
         obtain⟨D,E,O⟩:=hcut.out
         have b5:=c4.out.step O.bel
         have m:((rs.take i).map uab).length=i:=by rw[List.length_map,List.length_take,HT.out.2];omega
         obtain⟨-,-,-,y3,-⟩:=b5.cells
         simp only[m]at y3
         generalize g2:min S 22=mn at *
         have p0:w7.cell? ⟨rb,0,none⟩=some (.string (cutS H 15)):=by rw[Q.out,qe O.box];rfl
         have p1:w7.cell? ⟨rb,1,none⟩=some (.slice D mn E):=by rw[Q.out,qe O.box];rfl
         have p2:w7.cell? ⟨rb,2,none⟩=some (.string (cutS I 15)):=by rw[Q.out,qe O.box];rfl
         have b0:OwnS w7 W.heap.size (.slice D mn E) (uab ⟨H,C,I⟩).r:=zd O.own (by have:=c4.out.bel.size;omega)
         obtain⟨ao,n,c,w8,l,hn,f,f6⟩:=b5.addRule (by simp only;rw[m];omega) (uab ⟨H,C,I⟩) D E mn b0 O.len
         simp only[m]at l
         have F:(Builtin.append_ #[23,23] 23 #[.slice T i U,.slice (some ⟨w7.heap.size,0,none⟩) 1 1]).run Tryz.prog (w7.alloc (.cells #[.string (cutS H 15),.slice D mn E,.string (cutS I 15)] 55))=.ok (.slice ao n c) w8:=l
         have d3:w8.cell? ⟨z,3,none⟩=some (.slice T i U):=by rw[qe f];show some (Value.slice T ((rs.take i).map uab).length U)=_;rw[m]
         have f3:w8.frozen? ⟨z,3,none⟩=false:=qi f 3
         have y:Hid (∃h qs,GB W (w8.setCell ⟨z,3,none⟩ (.slice ao n c)) z h ⟨(ts.take 42).map vu,cutS a 15,d,(rs.take (i+1)).map uab⟩ qs):=by
          have e:(rs.take (i+1)).map uab=(rs.take i).map uab++[uab ⟨H,C,I⟩]:=by rw[zn g0.out,List.map_append];rfl
          rw[e]
          exact⟨_,_,f6⟩
         clear b5 f6 f hn O hcut R0 b0 l m g2
         generalize cutS H 15=cl at *
         generalize cutS I 15=cp at *
         go_wp2_with(at_builtin;refine Lib.wpList_append_run _ rfl _ _ _ _ rfl _ _ rfl rfl _ _ F ?_)
         go_roundg (V - (i+1))
         case measure=>omega
         case rel=>exact⟨i+1,by simp,by omega,by omega,Nat.le_refl _,y⟩
      ·have N:(i:Int)<(V:Int):=by omega
       have b4:¬(i:Int)<105:=by omega
       have y:Hid (∃h qs,GB W wr z h (xp ⟨ts,a,d,rs⟩) qs):=by
        have:i=105:=by omega
        subst this
        exact J.out
       clear A J
       go_wp2_with fail
       go_meet
       exact y
     ·have N:¬(i:Int)<(V:Int):=by omega
      have y:Hid (∃h qs,GB W wr z h (xp ⟨ts,a,d,rs⟩) qs):=by
       have e:rs.take 105=rs.take i:=by rw[List.take_of_length_le (by rw[HT.out.2];omega),List.take_of_length_le (by rw[HT.out.2];omega)]
       unfold xp
       simp only
       rw[e]
       exact J.out
      clear A J
      go_wp2_with fail
      go_meet
      exact y
   case rest =>
    obtain⟨w9,i8⟩:∃w9,w9=wc:=⟨_,rfl⟩
    subst wc
    obtain⟨⟨Y,k1,T,U⟩,qs,A⟩:=hcut.out
    obtain⟨y0,y1,y2,y3,-⟩:=A.cells
    have B:w9.heap[g+1]?=some (.cells #[.slice none 0 0,.string ⟨#[]⟩,.int .i64 0,.slice none 0 0] 25 (0,0)):=qf A.bel HX.out.2
    have z0:w9.cell? ⟨g+1,0,none⟩=some (.slice none 0 0):=by rw[qe B];rfl
    have z1:w9.cell? ⟨g+1,1,none⟩=some (.string ⟨#[]⟩):=by rw[qe B];rfl
    have z2:w9.cell? ⟨g+1,2,none⟩=some (.int .i64 0):=by rw[qe B];rfl
    have z3:w9.cell? ⟨g+1,3,none⟩=some (.slice none 0 0):=by rw[qe B];rfl
    have fz:∀j,w9.frozen? ⟨g+1,j,none⟩=false:=qi B
    have h0:=fz 0
    have h1:=fz 1
    have h2:=fz 2
    have h3:=fz 3
    clear fz
    have y:Hid (OwnG ((((w9.setCell ⟨g+1,0,none⟩ (.slice Y (xp ⟨ts,a,d,rs⟩).ts.length k1)).setCell ⟨g+1,1,none⟩ (.string (xp ⟨ts,a,d,rs⟩).s)).setCell ⟨g+1,2,none⟩ (.int .i64 (xp ⟨ts,a,d,rs⟩).e)).setCell ⟨g+1,3,none⟩ (.slice T (xp ⟨ts,a,d,rs⟩).rs.length U)) w.heap.size ⟨Y,k1,T,U⟩ (xp ⟨ts,a,d,rs⟩) qs/\Below w.heap.size w ((((w9.setCell ⟨g+1,0,none⟩ (.slice Y (xp ⟨ts,a,d,rs⟩).ts.length k1)).setCell ⟨g+1,1,none⟩ (.string (xp ⟨ts,a,d,rs⟩).s)).setCell ⟨g+1,2,none⟩ (.int .i64 (xp ⟨ts,a,d,rs⟩).e)).setCell ⟨g+1,3,none⟩ (.slice T (xp ⟨ts,a,d,rs⟩).rs.length U))):=by
     have M:w.heap.size<=g+1:=by rw[HN.out.1];omega
     have hW:g+1<W.heap.size:=by have:=HN.out.2;omega
     have far:∀{W':World} {u:Value} {j:Nat},OwnG W' W.heap.size ⟨Y,k1,T,U⟩ (xp ⟨ts,a,d,rs⟩) qs->OwnG (W'.setCell ⟨g+1,j,none⟩ u) W.heap.size ⟨Y,k1,T,U⟩ (xp ⟨ts,a,d,rs⟩) qs:=by
      intro W' u j o
      refine⟨?_,?_,o.map,fun q hq=>?_⟩
      ·exact qh o.tok (fun i hi=>Below.heap_setCell _ _ _ _ (fun e=>by simp only at e;have:=(World.ownsRow.lt o.tok i hi).1;omega))
      ·exact qh o.rul (fun i hi=>Below.heap_setCell _ _ _ _ (fun e=>by simp only at e;have:=(World.ownsRow.lt o.rul i hi).1;omega))
      ·exact qh (o.row q hq) (fun i hi=>Below.heap_setCell _ _ _ _ (fun e=>by simp only at e;have:=(World.ownsRow.lt (o.row q hq) i hi).1;omega))
     have o9:=far (u:=.slice T (xp ⟨ts,a,d,rs⟩).rs.length U) (j:=3) (far (u:=.int .i64 (xp ⟨ts,a,d,rs⟩).e) (j:=2) (far (u:=.string (xp ⟨ts,a,d,rs⟩).s) (j:=1) (far (u:=.slice Y (xp ⟨ts,a,d,rs⟩).ts.length k1) (j:=0) A.own)))
     have b7:w.heap.size<=W.heap.size:=HB.out.size
     refine⟨⟨zd o9.tok b7,zd o9.rul b7,o9.map,fun q hq=>zd (o9.row q hq) b7⟩,?_⟩
     exact((((qd HB.out A.bel).setCell (p:=⟨g+1,0,none⟩) M _).setCell (p:=⟨g+1,1,none⟩) M _).setCell (p:=⟨g+1,2,none⟩) M _).setCell (p:=⟨g+1,3,none⟩) M _
    clear A hcut B b1
    generalize a9:(xp ⟨ts,a,d,rs⟩).ts.length=c8 at y0 y
    generalize a8:(xp ⟨ts,a,d,rs⟩).rs.length=c6 at y3 y
    generalize d4:(xp ⟨ts,a,d,rs⟩).s=c7 at y1 y
    generalize d2:(xp ⟨ts,a,d,rs⟩).e=c5 at y2 y
    have HE:Hid ((xp ⟨ts,a,d,rs⟩).ts.length=c8/\(xp ⟨ts,a,d,rs⟩).rs.length=c6/\(xp ⟨ts,a,d,rs⟩).s=c7/\(xp ⟨ts,a,d,rs⟩).e=c5):=⟨a9,a8,d4,d2⟩
    clear a9 a8 d4 d2
    go_wp2_with fail
    refine bodyPost_ret (v:=.agg #[.slice Y c8 k1,.string c7,.int .i64 c5,.slice T c6 U]) (by simp[results,Tryz.results11,go_sem, *]) rfl ?_
    obtain⟨e1,e2,e3,e4⟩:=HE.out
    refine⟨⟨Y,k1,T,U⟩,?_,⟨qs,y.out.1⟩,y.out.2⟩
    simp only[e1,e2,e3,e4]
theorem ua2(W:World)(c n b:Nat)(a:Option Addr)(x:Int)(c1:W.cell? ⟨c,1,none⟩=some (.slice a n b))(d:¬(0<=x/\x<(n:Int))):
  Calls Tryz.prog 23 #[.pointer (some ⟨c,0,none⟩),.int .i64 x] W fun e f=>e=.returned (.bool false)/\f=W:=by
 go_enter Tryz.func23,Tryz.ntmps23
 go_wp2_with fail
 refine(qbp W c n b _ c1 x).mono ?_
 rintro e w1 ⟨rfl,rfl⟩
 have hd:decide (0<=x/\x<(n:Int))=false:=by simp only[decide_eq_false_iff_not];exact d
 rw[hd]
 go_wp2_with fail
 go_ret
 exact⟨rfl,rfl⟩
def wd (F:List Nat) (x:Nat):Nat:=(F[x]?).getD 0
def tb (F:List Nat) (x t:Nat):Bool:=(wd F x).testBit t
def ofW (E:List Bool) (F:List Nat):List Nat->Nat × Bool
 | []=>(0,true)
 | z :: l=>if isF E z then (wd F z ||| (ofW E F l).1,(ofW E F l).2) else (wd F z,false)
theorem uao(E:List Bool)(F:List Nat):∀l:List Nat,(ofW E F l).2=true↔∀z∈l,isF E z=true
 | []=>by simp[ofW]
 | z :: l=>by
  have a:=uao E F l
  unfold ofW
  cases h:isF E z
  ·simp[h]
  ·simp[h,a]
theorem uay(E:List Bool)(F:List Nat)(t:Nat):∀l:List Nat,(ofW E F l).1.testBit t=true↔∃u y v,l=u++y :: v/\(∀z∈u,isF E z=true)/\tb F y t=true
 | []=>by
  simp[ofW]
 | z :: l=>by
  have i:=uay E F t l
  have g:(wd F z).testBit t=tb F z t:=rfl
  unfold ofW
  cases h:isF E z
  ·rw[if_neg (by simp),g]
   constructor
   ·intro f;exact⟨[],z,l,rfl,(fun w a=>by cases a),f⟩
   ·rintro⟨u,y,v,c,d,b⟩
    cases u with
    | nil=>cases c;exact b
    | cons w u=>cases c;have:=d z (by simp);rw[h]at this;cases this
  ·rw[if_pos rfl,Nat.testBit_or,Bool.or_eq_true,g,i]
   constructor
   ·rintro(f | ⟨u,y,v,rfl,d,b⟩)
    ·exact⟨[],z,l,rfl,(fun w a=>by cases a),f⟩
    ·refine⟨z :: u,y,v,rfl,fun w a=>?_,b⟩
     rcases List.mem_cons.1 a with rfl | a
     ·exact h
     ·exact d w a
   ·rintro⟨u,y,v,c,d,b⟩
    cases u with
    | nil=>cases c;exact .inl b
    | cons w u=>cases c;exact .inr ⟨u,y,v,rfl,(fun w a=>d w (List.mem_cons_of_mem _ a)),b⟩
theorem uaq{a b:Nat}(c:a<2 ^ 64)(d:b<2 ^ 64):a ||| b<2 ^ 64:=Nat.or_lt_two_pow c d
theorem uaa{F:List Nat}(h:∀w∈F,w<2 ^ 64)(x:Nat):wd F x<2 ^ 64:=by
 unfold wd
 cases a:F[x]? with
 | none=>exact Nat.two_pow_pos 64
 | some w=>exact h w (List.mem_of_getElem? a)
theorem yr(E:List Bool){F:List Nat}(h:∀w∈F,w<2 ^ 64):∀l:List Nat,(ofW E F l).1<2 ^ 64
 | []=>Nat.two_pow_pos 64
 | z :: l=>by
  unfold ofW
  split
  ·exact uaq (uaa h z) (yr E h l)
  ·exact uaa h z
theorem ucf{E:List Bool}{F:List Nat}{l:List Nat}{k z a:Nat}(f:l[k]?=some z)(d:isF E z=true)(h:a ||| (ofW E F (l.drop k)).1=(ofW E F l).1/\(ofW E F (l.drop k)).2=(ofW E F l).2):(a ||| wd F z) ||| (ofW E F (l.drop (k+1))).1=(ofW E F l).1/\(ofW E F (l.drop (k+1))).2=(ofW E F l).2:=by
 have hd:l.drop k=z :: l.drop (k+1):=by
  obtain⟨b,c⟩:=List.getElem?_eq_some_iff.1 f
  rw[<-c]
  exact List.drop_eq_getElem_cons b
 have e:ofW E F (l.drop k)=(wd F z ||| (ofW E F (l.drop (k+1))).1,(ofW E F (l.drop (k+1))).2):=by
  rw[hd]
  show(if isF E z then _ else _)=_
  rw[if_pos d]
 rw[e]at h
 rw[Nat.or_assoc]
 exact h
theorem uck{E:List Bool}{F:List Nat}{l:List Nat}{k z a:Nat}(f:l[k]?=some z)(d:isF E z=false)(h:a ||| (ofW E F (l.drop k)).1=(ofW E F l).1/\(ofW E F (l.drop k)).2=(ofW E F l).2):a ||| wd F z=(ofW E F l).1/\false=(ofW E F l).2:=by
 have hd:l.drop k=z :: l.drop (k+1):=by
  obtain⟨b,c⟩:=List.getElem?_eq_some_iff.1 f
  rw[<-c]
  exact List.drop_eq_getElem_cons b
 have e:ofW E F (l.drop k)=(wd F z,false):=by
  rw[hd]
  show(if isF E z then _ else _)=_
  rw[if_neg (by rw[d];simp)]
 rw[e]at h
 exact h
theorem ua9{F:List Nat}{x w:Nat}(a:x<F.length)(y:Nat):wd (F.set x w) y=if y=x then w else wd F y:=by
 unfold wd
 rw[List.getElem?_set]
 by_cases h:x=y
 ·subst h;simp[a]
 ·rw[if_neg h,if_neg (fun e=>h e.symm)]
theorem ucj{F:List Nat}{x:Nat}(a:x<F.length):F[x]?=some (wd F x):=by
 unfold wd;rw[List.getElem?_eq_getElem a];rfl
theorem uba{F:List Nat}{x:Nat}(a:x<F.length):F.set x (wd F x)=F:=by
 apply List.ext_getElem?
 intro i
 rw[List.getElem?_set]
 split
 ·subst_vars
  exact(ucj a).symm
 ·rfl
theorem uar{E:List Bool}{x:Nat}(a:x<E.length):E.set x (isF E x)=E:=by
 apply List.ext_getElem?
 intro i
 rw[List.getElem?_set]
 split
 ·subst_vars
  exact(vm a).symm
 ·rfl
theorem ua8{F:List Nat}{x v:Nat}(c:x<F.length)(y t:Nat):tb (F.set x (wd F x ||| v)) y t=true↔tb F y t=true\/(y=x/\v.testBit t=true):=by
 unfold tb
 rw[ua9 c]
 by_cases h:y=x
 ·subst h
  rw[if_pos rfl,Nat.testBit_or,Bool.or_eq_true]
  exact or_congr Iff.rfl ⟨fun h=>⟨rfl,h⟩,fun h=>h.2⟩
 ·rw[if_neg h]
  exact⟨.inl,fun a=>a.elim id (fun b=>absurd b.1 h)⟩
theorem ubi{a b:Nat}(h:a ||| b=a)(t:Nat)(c:b.testBit t=true):a.testBit t=true:=by
 rw[<-h,Nat.testBit_or,c,Bool.or_true]
def kb (w:Nat):Nat:=(List.range 64).countP (fun t=>!w.testBit t)
def zbs (F:List Nat):Nat:=(F.map kb).sum
theorem ucu(w v:Nat):kb (w ||| v)<=kb w:=by
 refine List.countP_mono_left (fun t _ h=>?_)
 rw[Nat.testBit_or]at h
 cases a:w.testBit t
 ·rfl
 ·rw[a]at h;simp at h
theorem ubj{w v:Nat}(m:w<2 ^ 64)(u:v<2 ^ 64)(h:w ||| v≠w):kb (w ||| v)<kb w:=by
 obtain⟨t,f⟩:∃t,(w ||| v).testBit t≠w.testBit t:=by
  apply Classical.byContradiction
  intro s
  exact h (Nat.eq_of_testBit_eq (fun t=>Classical.byContradiction (fun b=>s ⟨t,b⟩)))
 have d:w.testBit t=false:=by
  cases j:w.testBit t
  ·rfl
  ·rw[Nat.testBit_or,j,Bool.true_or]at f;exact absurd rfl f
 have c:(w ||| v).testBit t=true:=by
  cases j:(w ||| v).testBit t
  ·rw[j,d]at f;exact absurd rfl f
  ·rfl
 have k:t<64:=by
  rcases Nat.lt_or_ge t 64 with b | b
  ·exact b
  ·rw[Nat.testBit_lt_two_pow (Nat.lt_of_lt_of_le (uaq m u) (Nat.pow_le_pow_right (by decide) b))]at c
   cases c
 have n:∀l:List Nat,t∈l->l.countP (fun t=>!(w ||| v).testBit t)<l.countP (fun t=>!w.testBit t):=by
  intro l
  induction l with
  | nil=>intro h;cases h
  | cons a l ih =>
   intro r
   have q:l.countP (fun t=>!(w ||| v).testBit t)<=l.countP (fun t=>!w.testBit t):=by
    refine List.countP_mono_left (fun t _ h=>?_)
    rw[Nat.testBit_or]at h
    cases m:w.testBit t
    ·rfl
    ·rw[m]at h;simp at h
   by_cases o:a=t
   ·subst o
    rw[List.countP_cons,List.countP_cons,d,c]
    rw[if_neg (by decide),if_pos (by decide)]
    omega
   ·have i:t∈l:=by
     rcases List.mem_cons.1 r with b | b
     ·exact absurd b.symm o
     ·exact b
    have:=ih i
    have p:(!(w ||| v).testBit a)=true->(!w.testBit a)=true:=by
     rw[Nat.testBit_or]
     cases w.testBit a <;> simp
    rw[List.countP_cons,List.countP_cons]
    by_cases g:(!(w ||| v).testBit a)=true
    ·rw[if_pos g,if_pos (p g)];omega
    ·rw[if_neg g]
     split <;> omega
 exact n _ (List.mem_range.2 k)
theorem ua3:∀{F:List Nat} {x v:Nat},x<F.length->zbs (F.set x v)+kb (wd F x)=zbs F+kb v
 | [],_,_,h=>absurd h (Nat.not_lt_zero _)
 | w :: F,0,v,_=>by
  simp[zbs,wd]
  omega
 | w :: F,x+1,v,h=>by
  have a:=ua3 (F:=F) (x:=x) (v:=v) (by simpa using h)
  simp only[zbs,List.set_cons_succ,List.map_cons,List.sum_cons,wd,List.getElem?_cons_succ]at a ⊢
  omega
def zE (E:List Bool):Nat:=E.countP (fun b=>!b)
theorem ubb:∀{E:List Bool} {x:Nat},x<E.length->isF E x=false->zE (E.set x true)+1=zE E
 | [],_,h,_=>absurd h (Nat.not_lt_zero _)
 | b :: E,0,_,hf=>by
  have:b=false:=by simpa [isF] using hf
  subst this
  simp[zE]
 | b :: E,x+1,h,hf=>by
  have a:=ubb (E:=E) (x:=x) (by simpa using h) (by simpa [isF] using hf)
  simp only[zE,List.set_cons_succ,List.countP_cons]at a ⊢
  omega
structure TF (S:Sp) (n:Nat) (E:List Bool) (F:List Nat):Prop where
 el:E.length=n
 fl:F.length=n
 lt:∀w∈F,w<2 ^ 64
 es:∀x,isF E x=true->Nul S x
 fs:∀x t,tb F x t=true->FstP S x t
 tok:∀x,x<S.tk->tb F x x=true
def Cl1 (S:Sp) (E:List Bool) (F:List Nat) (j:Nat):Prop:=∀(r:SR) (x:Nat),S.rs[j]?=some r->r.l=(x:Int)->((ofW E F r.r).2=true->isF E x=true)/\∀t,(ofW E F r.r).1.testBit t=true->tb F x t=true
theorem TF.fstL{S:Sp}{n:Nat}{E:List Bool}{F:List Nat}(h:TF S n E F){l:List Nat}{t:Nat}(b:(ofW E F l).1.testBit t=true):FstL S l t:=by
 obtain⟨u,y,v,a,c,d⟩:=(uay E F t l).1 b
 exact⟨u,y,v,a,fun z f=>h.es z (c z f),h.fs y t d⟩
def yp (E:List Bool) (x:Nat) (b:Bool):List Bool:=E.set x (isF E x || b)
def xr (F:List Nat) (x v:Nat):List Nat:=F.set x (wd F x ||| v)
theorem ubk{F:List Nat}{x v:Nat}(h:∀w∈F,w<2 ^ 64)(a:v<2 ^ 64):∀w∈xr F x v,w<2 ^ 64:=by
 intro w b
 rcases List.mem_or_eq_of_mem_set b with h1 | rfl
 ·exact h w h1
 ·exact uaq (uaa h x) a
theorem ucg{E:List Bool}{x:Nat}{b:Bool}(d:x<E.length)(y:Nat):isF (yp E x b) y=true↔isF E y=true\/(y=x/\b=true):=by
 unfold yp isF
 rw[List.getElem?_set]
 by_cases h:x=y
 ·subst h
  rw[if_pos rfl,if_pos d]
  simp
 ·rw[if_neg h]
  exact⟨.inl,fun a=>a.elim id (fun c=>absurd c.1.symm h)⟩
theorem TF.add{S:Sp}{n i x:Nat}{r:SR}{E:List Bool}{F:List Nat}(h:TF S n E F)(f:0<i)(g:S.rs[i]?=some r)(j:r.l=(x:Int))(b:x<n):TF S n (yp E x (ofW E F r.r).2) (xr F x (ofW E F r.r).1):=by
 have d:x<E.length:=by rw[h.el];exact b
 have a:x<F.length:=by rw[h.fl];exact b
 refine⟨by unfold yp;rw[List.length_set];exact h.el,by unfold xr;rw[List.length_set];exact h.fl,ubk h.lt (yr E h.lt _),fun y c=>?_,fun y t c=>?_,fun y c=>(ua8 a _ _).2 (.inl (h.tok y c))⟩
 ·rcases (ucg d y).1 c with h1 | ⟨rfl,h1⟩
  ·exact h.es y h1
  ·exact Nul.rule i r y f g j (fun z k=>h.es z ((uao E F r.r).1 h1 z k))
 ·rcases (ua8 a y t).1 c with h1 | ⟨rfl,h1⟩
  ·exact h.fs y t h1
  ·exact ucd f g j (h.fstL h1)
theorem TF.same{S:Sp}{n i x:Nat}{r:SR}{E:List Bool}{F:List Nat}(h:TF S n E F)(k:S.rs[i]?=some r)(o:r.l=(x:Int))(a:x<n)(d:wd F x ||| (ofW E F r.r).1=wd F x)(f:(ofW E F r.r).2=true->isF E x=true):yp E x (ofW E F r.r).2=E/\xr F x (ofW E F r.r).1=F/\Cl1 S E F i:=by
 have b:x<E.length:=by rw[h.el];exact a
 have c:x<F.length:=by rw[h.fl];exact a
 refine⟨?_,?_,fun q y g p=>?_⟩
 ·unfold yp
  have:(isF E x || (ofW E F r.r).2)=isF E x:=by
   cases j:(ofW E F r.r).2
   ·simp
   ·rw[f j];rfl
  rw[this]
  exact uar b
 ·unfold xr
  rw[d]
  exact uba c
 ·rw[k]at g
  cases g
  rw[o]at p
  have:x=y:=by omega
  subst this
  exact⟨f,fun t m=>ubi d t m⟩
theorem TF.less{S:Sp}{n x:Nat}{r:SR}{E:List Bool}{F:List Nat}(h:TF S n E F)(c:x<n)(b:wd F x ||| (ofW E F r.r).1≠wd F x\/((ofW E F r.r).2=true/\isF E x=false)):zE (yp E x (ofW E F r.r).2)+zbs (xr F x (ofW E F r.r).1)<zE E+zbs F:=by
 have a:x<E.length:=by rw[h.el];exact c
 have g:x<F.length:=by rw[h.fl];exact c
 have i:=ua3 (F:=F) (x:=x) (v:=wd F x ||| (ofW E F r.r).1) g
 have j:=ucu (wd F x) (ofW E F r.r).1
 have d:zE (yp E x (ofW E F r.r).2)<=zE E:=by
  unfold yp
  cases f:isF E x
  ·cases b:(ofW E F r.r).2
   ·simp only[Bool.or_self]
    have:=uar a
    rw[f]at this
    rw[this]
    exact Nat.le_refl _
   ·have:=ubb a f
    simp
    omega
  ·simp only[Bool.true_or]
   have:=uar a
   rw[f]at this
   rw[this]
   exact Nat.le_refl _
 unfold xr
 rcases b with b | ⟨b,hd⟩
 ·have:=ubj (uaa h.lt x) (yr E h.lt r.r) b
  omega
 ·have:=ubb a hd
  unfold yp at d ⊢
  rw[b,hd]at d ⊢
  simp at d ⊢
  omega
theorem TF.le{S:Sp}{n x:Nat}{r:SR}{E:List Bool}{F:List Nat}(h:TF S n E F)(a:x<n):zE (yp E x (ofW E F r.r).2)+zbs (xr F x (ofW E F r.r).1)<=zE E+zbs F:=by
 by_cases c:wd F x ||| (ofW E F r.r).1≠wd F x\/((ofW E F r.r).2=true/\isF E x=false)
 ·exact Nat.le_of_lt (h.less a c)
 ·have d:x<E.length:=by rw[h.el];exact a
  have f:x<F.length:=by rw[h.fl];exact a
  have b:wd F x ||| (ofW E F r.r).1=wd F x:=Classical.byContradiction (fun b=>c (.inl b))
  have g:(isF E x || (ofW E F r.r).2)=isF E x:=by
   cases i:(ofW E F r.r).2
   ·simp
   ·cases hd:isF E x
    ·exact absurd (.inr ⟨i,hd⟩) c
    ·rfl
  unfold yp xr
  rw[b,g,uba f,uar d]
  exact Nat.le_refl _
theorem TF.done{S:Sp}{n:Nat}{E:List Bool}{F:List Nat}(h:TF S n E F)(g:∀j,0<j->j<S.rs.length->Cl1 S E F j):(∀x,isF E x=true↔Nul S x)/\∀x t,tb F x t=true↔FstP S x t:=by
 refine⟨ua6 h.es (fun i r x c b d f=>?_),ubx h.fs h.tok (fun i r x y a u v c b d l m f=>?_)⟩
 ·exact(g i c (List.getElem?_eq_some_iff.1 b).1 r x b d).1 ((uao E F r.r).2 f)
 ·have k:∀x,isF E x=true↔Nul S x:=ua6 h.es (fun i r x c b d f=>(g i c (List.getElem?_eq_some_iff.1 b).1 r x b d).1 ((uao E F r.r).2 f))
  refine(g i c (List.getElem?_eq_some_iff.1 b).1 r x b d).2 a ((uay E F a r.r).2 ⟨u,y,v,l,fun z o=>(k z).2 (m z o),f⟩)
theorem ubc{S:Sp}{E:List Bool}{F:List Nat}(h:(∀x,isF E x=true↔Nul S x)/\∀x t,tb F x t=true↔FstP S x t)(l:List Nat):((ofW E F l).2=true↔∀z∈l,Nul S z)/\∀t,(ofW E F l).1.testBit t=true↔FstL S l t:=by
 constructor
 ·rw[uao]
  exact⟨fun k z a=>(h.1 z).1 (k z a),fun k z a=>(h.1 z).2 (k z a)⟩
 ·intro t
  rw[uay]
  constructor
  ·rintro⟨u,y,v,b,c,d⟩
   exact⟨u,y,v,b,fun z a=>(h.1 z).1 (c z a),(h.2 y t).1 d⟩
  ·rintro⟨u,y,v,b,c,d⟩
   exact⟨u,y,v,b,fun z a=>(h.1 z).2 (c z a),(h.2 y t).2 d⟩
structure TG (S:Sp) (n:Nat) (G:List Nat):Prop where
 gl:G.length=n
 lt:∀w∈G,w<2 ^ 64
 gs:∀x t,tb G x t=true->FolP S x t
 st:tb G S.st S.tk=true
def uas (E:List Bool) (F G:List Nat) (x:Nat) (v:List Nat):Nat:=if (ofW E F v).2 then (ofW E F v).1 ||| wd G x else (ofW E F v).1
theorem ua4{E:List Bool}{F G:List Nat}(a:∀w∈F,w<2 ^ 64)(b:∀w∈G,w<2 ^ 64)(x:Nat)(v:List Nat):uas E F G x v<2 ^ 64:=by
 unfold uas
 split
 ·exact uaq (yr E a v) (uaa b x)
 ·exact yr E a v
theorem ubd{S:Sp}{E:List Bool}{F G:List Nat}(h:(∀x,isF E x=true↔Nul S x)/\∀x t,tb F x t=true↔FstP S x t)(x:Nat)(v:List Nat)(t:Nat):(uas E F G x v).testBit t=true↔FstL S v t\/((∀z∈v,Nul S z)/\tb G x t=true):=by
 obtain⟨b,c⟩:=ubc h v
 have d:(wd G x).testBit t=tb G x t:=rfl
 unfold uas
 cases a:(ofW E F v).2
 ·rw[if_neg (by simp),c]
  refine⟨.inl,fun k=>k.elim id (fun k=>?_)⟩
  rw[b.2 k.1]at a
  cases a
 ·rw[if_pos rfl,Nat.testBit_or,Bool.or_eq_true,c,d]
  have:=b.1 a
  exact or_congr Iff.rfl ⟨fun k=>⟨this,k⟩,fun k=>k.2⟩
def Cl2 (S:Sp) (E:List Bool) (F G:List Nat) (j k:Nat):Prop:=∀(r:SR) (x y:Nat),S.rs[j]?=some r->r.l=(x:Int)->r.r[k]?=some y->S.tk<y->∀t,(uas E F G x (r.r.drop (k+1))).testBit t=true->tb G y t=true
theorem TG.add{S:Sp}{n i x y k:Nat}{r:SR}{E:List Bool}{F G:List Nat}(h:TG S n G)(p:∀w∈F,w<2 ^ 64)(q:(∀x,isF E x=true↔Nul S x)/\∀x t,tb F x t=true↔FstP S x t)(g:0<i)(m:S.rs[i]?=some r)(o:r.l=(x:Int))(s:r.r[k]?=some y)(d:S.tk<y)(f:y<n):TG S n (xr G y (uas E F G x (r.r.drop (k+1)))):=by
 have c:y<G.length:=by rw[h.gl];exact f
 have j:r.r=r.r.take k++y :: r.r.drop (k+1):=by
  obtain⟨a,b⟩:=List.getElem?_eq_some_iff.1 s
  rw[<-b,<-List.drop_eq_getElem_cons a,List.take_append_drop]
 refine⟨by unfold xr;rw[List.length_set];exact h.gl,ubk h.lt (ua4 p h.lt _ _),fun z t u=>?_,(ua8 c _ _).2 (.inl h.st)⟩
 rcases (ua8 c z t).1 u with a | ⟨rfl,a⟩
 ·exact h.gs z t a
 ·rcases (ubd q x _ t).1 a with b | ⟨b,h3⟩
  ·exact FolP.first i r x z t _ _ g m o j d b
  ·exact FolP.last i r x z t _ _ g m o j d b (h.gs x t h3)
theorem TG.less{S:Sp}{n y v:Nat}{G:List Nat}(h:TG S n G)(b:y<n)(d:v<2 ^ 64)(c:wd G y ||| v≠wd G y):zbs (xr G y v)<zbs G:=by
 have a:y<G.length:=by rw[h.gl];exact b
 have f:=ua3 (F:=G) (x:=y) (v:=wd G y ||| v) a
 have:=ubj (uaa h.lt y) d c
 unfold xr
 omega
theorem ube{S:Sp}{i x y k:Nat}{r:SR}{E:List Bool}{F G:List Nat}(j:S.rs[i]?=some r)(n:r.l=(x:Int))(o:r.r[k]?=some y)(g:S.tk<y->wd G y ||| uas E F G x (r.r.drop (k+1))=wd G y):Cl2 S E F G i k:=by
 intro q a b f h d c t m
 rw[j]at f
 cases f
 rw[n]at h
 have:x=a:=by omega
 subst this
 rw[o]at d
 cases d
 exact ubi (g c) t m
theorem TG.done{S:Sp}{n:Nat}{E:List Bool}{F G:List Nat}(h:TG S n G)(A:(∀x,isF E x=true↔Nul S x)/\∀x t,tb F x t=true↔FstP S x t)(B:∀(j k:Nat) (r:SR),0<j->S.rs[j]?=some r->k<r.r.length->Cl2 S E F G j k):∀x t,tb G x t=true↔FolP S x t:=by
 have m:∀(i:Nat) (r:SR) (x y t:Nat) (u v:List Nat),0<i->S.rs[i]?=some r->r.l=(x:Int)->r.r=u++y :: v->S.tk<y->FstL S v t\/((∀z∈v,Nul S z)/\tb G x t=true)->tb G y t=true:=by
  intro i r x y t u v d c f b g C
  have q:r.r[u.length]?=some y:=by rw[b,List.getElem?_append_right (Nat.le_refl _),Nat.sub_self];rfl
  have s:r.r.drop (u.length+1)=v:=by
   rw[b,List.drop_append,List.drop_eq_nil_of_le (by omega)]
   have:u.length+1 - u.length=1:=by omega
   rw[this];rfl
  have p:=B i u.length r d c (by rw[b];simp) r x y c f q g t
  rw[s]at p
  exact p ((ubd A x v t).2 C)
 exact uby h.gs h.st (fun i r x y a u v d c f b g o=>m i r x y a u v d c f b g (.inl o)) (fun i r x y a u v d c f b g D o=>m i r x y a u v d c f b g (.inr ⟨D,o⟩))
theorem ucq(G:Gm):∃k,OfR G k:=by
 unfold OfR
 rcases Classical.em (MayP G) with h1 | h1
 ·rcases Classical.em (kz G) with h2 | h2
  ·exact⟨6,.inr (.inl ⟨rfl,h1,h2⟩)⟩
  ·rcases Classical.em (NmP G) with h3 | h3
   ·rcases Classical.em (yd (spG G)) with h4 | h4
    ·exact⟨8,.inr (.inr (.inr (.inl ⟨rfl,h1,h2,h3,h4⟩)))⟩
    ·exact⟨0,.inr (.inr (.inr (.inr ⟨rfl,h1,h2,h3,h4⟩)))⟩
   ·exact⟨7,.inr (.inr (.inl ⟨rfl,h1,h2,h3⟩))⟩
 ·exact⟨1,.inl ⟨rfl,h1⟩⟩
def u6C (F:List Nat):List Value:=F.map fun(u:Nat)=>Value.int .u64 (u:Int)
theorem ubq(F:List Nat):(u6C F).length=F.length:=by unfold u6C;rw[List.length_map]
theorem ucr{F:List Nat}{x:Nat}(a:x<F.length):(u6C F)[x]?=some (.int .u64 (wd F x:Int)):=by
 unfold u6C
 rw[List.getElem?_map,ucj a]
 rfl
theorem uau{a:Nat}(h:a<2 ^ 64):a<18446744073709551616:=h
theorem uch{i:Nat}(c:i<64):IntKind.u64.wrap ((2:Int) ^ i)=((2 ^ i:Nat):Int):=by
 have a:(2 ^ i:Nat)<18446744073709551616:=Nat.pow_lt_pow_right (by decide) (by omega:i<64)
 have b:(2:Int) ^ i=((2 ^ i:Nat):Int):=by simp
 rw[IntKind.wrap_u64,b]
 generalize 2 ^ i=q at a
 omega
theorem uav(W:World)(i:Nat)(a:i<64):Calls Tryz.prog 55 #[.int .i64 (i:Int)] W fun e b=>e=.returned (.int .u64 ((2 ^ i:Nat):Int))/\b=W:=by
 have c:IntKind.u64.wrap (i:Int)=(i:Int):=by rw[IntKind.wrap_u64];omega
 have d:=uch a
 go_enter Tryz.func55,Tryz.ntmps55
 go_wp2_with fail
 go_ret
 exact⟨by simp,rfl⟩
theorem ub3(u k:Nat):(u / 2 ^ k) % 2=if u.testBit k then 1 else 0:=by
 rw[<-Nat.shiftRight_eq_div_pow,<-Nat.and_one_is_mod]
 unfold Nat.testBit
 rw[Nat.and_comm]
 rcases Nat.mod_two_eq_zero_or_one (u >>> k) with h | h
 ·rw[Nat.one_and_eq_mod_two,h];rfl
 ·rw[Nat.one_and_eq_mod_two,h];rfl
theorem ub4(W:World)(u k:Nat)(d:u<2 ^ 64)(i:k<64):Calls Tryz.prog 57 #[.int .u64 (u:Int),.int .i64 (k:Int)] W fun e f=>e=.returned (.bool (u.testBit k))/\f=W:=by
 have g:IntKind.u64.wrap (k:Int)=(k:Int):=by rw[IntKind.wrap_u64];omega
 have b:u / 2 ^ k<18446744073709551616:=Nat.lt_of_le_of_lt (Nat.div_le_self _ _) d
 have h:bits .and .u64 ((u:Int) / 2 ^ k) 1=(((u / 2 ^ k) % 2:Nat):Int):=by
  have:=bits_and_u64_nat (u / 2 ^ k) 1 b (by decide)
  rw[Nat.and_one_is_mod]at this
  simpa using this
 have j:((u:Int) / 2 ^ k % 2 == 1)=u.testBit k:=by
  have c:(u:Int) / 2 ^ k % 2=(((u / 2 ^ k) % 2:Nat):Int):=by simp
  rw[c,ub3]
  cases u.testBit k <;> rfl
 have a:(k:Int)<64:=by omega
 go_enter Tryz.func57,Tryz.ntmps57
 go_wp2_with fail
 go_ret
 exact⟨by simp,rfl⟩
structure WL8 (W wr:World) (u k:Nat) (la:Option Addr) (lc:Nat):Prop where
 bel:Below W.heap.size W wr
 own:wr.ownsRow W.heap.size 3 1 (.slice la (upTo (fun t=>u.testBit t) k).length lc) (upTo (fun t=>u.testBit t) k).length (natC (upTo (fun t=>u.testBit t) k))
theorem uat(W:World)(u:Nat)(E:u<2 ^ 64):Calls Tryz.prog 36 #[.int .u64 (u:Int)] W fun e x=>∃i f,e=.returned (.slice i (upTo (fun t=>u.testBit t) 64).length f)/\x.ownsRow W.heap.size 3 1 (.slice i (upTo (fun t=>u.testBit t) 64).length f) (upTo (fun t=>u.testBit t) 64).length (natC (upTo (fun t=>u.testBit t) 64))/\Below W.heap.size W x:=by
 have B:Hid (WL8 W W u 0 none 0):=⟨Below.refl _ _,World.ownsRow_nil _ _ _ _⟩
 have A:Hid (∀(V:World) (k:Nat),k<64->Calls Tryz.prog 57 #[.int .u64 (u:Int),.int .i64 (k:Int)] V fun e x=>e=.returned (.bool (u.testBit k))/\x=V):=fun V k C=>ub4 V u k E C
 clear E
 go_enter Tryz.func36,Tryz.ntmps36
 go_wp2_with fail
 go_loopg [4,3] 64 (fun kx s4 s3 wr=>∃(k:Nat) (i:Option Addr) (f j:Nat),s4=.int .i64 k/\s3=.slice i j f/\k<=64/\j<=k/\j<=f/\f<=9223372036854775807/\64 - k<=kx/\Hid (j=(upTo (fun t=>u.testBit t) k).length/\WL8 W wr u k i f))
 case atStart=>exact⟨0,none,0,0,rfl,rfl,by omega,Nat.le_refl _,Nat.le_refl _,by omega,by omega,(⟨rfl,B.out⟩:0=(upTo (fun t=>u.testBit t) 0).length/\WL8 W W u 0 none 0)⟩
 case round =>
  clear B
  obtain⟨k,i,f,j,rfl,rfl,C,G,o,p,H,J⟩:=hrel
  by_cases q:k<64
  ·have D:(k:Int)<64:=by omega
   obtain⟨b,y⟩:=J.out
   have a:=qnr (fun t=>u.testBit t) k
   obtain⟨g,c,F,h,r,-,z⟩:=ql7 y.own y.bel.size (by have:=uce (fun t=>u.testBit t) k;omega) k
   rw[<-b]at h r
   have l:=z8 r
   cases d:u.testBit k
   ·simp only[d]at a
    rw[if_neg (by decide)]at a
    have m:Hid (j=(upTo (fun t=>u.testBit t) (k+1)).length/\WL8 W wr u (k+1) i f):=by
     refine⟨by rw[a];exact b,y.bel,?_⟩
     rw[a]
     exact y.own
    clear y J r a b z h l
    go_wp2_with fail
    refine(A.out wr k q).mono ?_
    rintro e w1 ⟨rfl,rfl⟩
    rw[d]
    clear d
    go_wp2_with fail
    go_roundg (64 - (k+1))
    case measure=>omega
    case rel=>exact⟨k+1,i,f,j,by simp,rfl,by omega,by omega,o,p,Nat.le_refl _,m⟩
   ·simp only[d]at a
    rw[if_pos trivial]at a
    have m:Hid (j+1=(upTo (fun t=>u.testBit t) (k+1)).length/\WL8 W F u (k+1) (some ⟨g,0,none⟩) c):=by
     refine⟨by rw[a,List.length_append,<-b];rfl,y.bel.trans z,?_⟩
     rw[a,List.length_append,<-b]
     exact r
    clear y J r a b z
    go_wp2_with fail
    refine(A.out wr k q).mono ?_
    rintro e w1 ⟨rfl,rfl⟩
    rw[d]
    clear d
    go_wp2_with(at_builtin;refine Lib.wpList_append_run _ rfl _ _ _ _ rfl _ _ rfl rfl _ _ h ?_)
    go_roundg (64 - (k+1))
    case measure=>omega
    case rel=>exact⟨k+1,some ⟨g,0,none⟩,c,j+1,by simp,by simp,by omega,by omega,l.1,l.2,Nat.le_refl _,m⟩
  ·have n:k=64:=by omega
   subst n
   obtain⟨b,y⟩:=J.out
   have m:Hid (∃(s:Option Addr) (v:Nat),Ending.returned (.slice i j f)=Ending.returned (.slice s (upTo (fun t=>u.testBit t) 64).length v)/\wr.ownsRow W.heap.size 3 1 (.slice s (upTo (fun t=>u.testBit t) 64).length v) (upTo (fun t=>u.testBit t) 64).length (natC (upTo (fun t=>u.testBit t) 64))/\Below W.heap.size W wr):=⟨i,f,by rw[b],y.own,y.bel⟩
   clear y J b
   go_wp2_with fail
   go_ret
   exact m.out
structure RP8 where
 eb:Nat
 fb:Nat
 gb:Nat
structure RT8 (W:World) (B rb:Nat) (p:RP8) (h:SHd) (S:Sp) (n:Nat) (E:List Bool) (F G:List Nat):Prop where
 box:W.heap[rb]?=some (.cells #[.int .i64 (S.tk:Int),.int .i64 (S.nt:Int),.int .i64 (S.st:Int),.int .i64 S.ex,.slice h.na S.nm.length h.nc,.slice h.la S.lv.length h.lc,.slice h.aa S.az.length h.ac,.slice h.ra S.rs.length h.rc,.slice (some ⟨p.eb,0,none⟩) n n,.slice (some ⟨p.fb,0,none⟩) n n,.slice (some ⟨p.gb,0,none⟩) n n] 72 (0,0))
 new:B<=rb
 emp:W.ownsRow B 4 1 (.slice (some ⟨p.eb,0,none⟩) n n) n (booC E)
 fst:W.ownsRow B 74 1 (.slice (some ⟨p.fb,0,none⟩) n n) n (u6C F)
 fol:W.ownsRow B 74 1 (.slice (some ⟨p.gb,0,none⟩) n n) n (u6C G)
 ne:p.fb≠p.gb
theorem RT8.below{W b:World}{B c:Nat}{p:RP8}{h:SHd}{S:Sp}{n:Nat}{E:List Bool}{F G:List Nat}(r:RT8 W B c p h S n E F G)(a:Below W.heap.size W b):RT8 b B c p h S n E F G:=⟨qf a r.box,r.new,zw r.emp a,zw r.fst a,zw r.fol a,r.ne⟩
theorem RT8.cells{W:World}{B a:Nat}{p:RP8}{h:SHd}{S:Sp}{n:Nat}{E:List Bool}{F G:List Nat}(r:RT8 W B a p h S n E F G):W.cell? ⟨a,8,none⟩=some (.slice (some ⟨p.eb,0,none⟩) n n)/\W.cell? ⟨a,9,none⟩=some (.slice (some ⟨p.fb,0,none⟩) n n)/\W.cell? ⟨a,10,none⟩=some (.slice (some ⟨p.gb,0,none⟩) n n):=⟨by rw[qe r.box];rfl,by rw[qe r.box];rfl,by rw[qe r.box];rfl⟩
theorem uac{W:World}{B g n:Nat}{F:List Nat}(h:W.ownsRow B 74 1 (.slice (some ⟨g,0,none⟩) n n) n (u6C F)){x:Nat}(b:x<n):W.cell? ⟨g,x,none⟩=some (.int .u64 (wd F x:Int)):=by
 have a:=h.1
 rw[ubq]at a
 rw[h.cellAt x (by omega)]
 exact ucr (by omega)
theorem uam(W:World)(B O:Nat)(p:RP8)(h:SHd)(S:Sp)(n:Nat)(E:List Bool)(F G:List Nat)(r:RT8 W B O p h S n E F G)(P:∀w∈F,w<2 ^ 64)(l:List Nat)(a:Option Addr)(m c:Nat)(R:l.length=m)(Z:m<=1000)(f:Row W 1 a m c (natC l))(Q:∀z∈l,z<n):
  Calls Tryz.prog 56 #[.pointer (some ⟨O,0,none⟩),.slice a m c] W fun e w'=>e=.returned (.tuple #[.int .u64 ((ofW E F l).1:Int),.bool (ofW E F l).2])/\Below W.heap.size W w':=by
 have i:Hid (RT8 W B O p h S n E F G/\(∀w∈F,w<2 ^ 64)/\(∀z∈l,z<n)/\Row W 1 a m c (natC l)/\l.length=m):=⟨r,P,Q,f,R⟩
 have hc:=ze f
 clear r P Q f R
 go_enter Tryz.func56,Tryz.ntmps56
 go_wp2_with fail
 go_loopg [7,6] m (fun kx s7 s6 wr=>∃k d:Nat,s7=.int .i64 k/\s6=.int .u64 (d:Int)/\k<=m/\d<18446744073709551616/\m - k<=kx/\Hid (Below W.heap.size W wr/\d ||| (ofW E F (l.drop k)).1=(ofW E F l).1/\(ofW E F (l.drop k)).2=(ofW E F l).2))
 case atStart=>exact⟨0,0,rfl,rfl,Nat.zero_le _,by omega,by omega,(⟨Below.refl _ _,by rw[List.drop_zero,Nat.zero_or],by rw[List.drop_zero]⟩:Below W.heap.size W W/\0 ||| (ofW E F (l.drop 0)).1=(ofW E F l).1/\(ofW E F (l.drop 0)).2=(ofW E F l).2)⟩
 case round =>
  obtain⟨k,d,rfl,rfl,hk,g,hg,J⟩:=hrel
  by_cases M:k<m
  ·have u:(k:Int)<(m:Int):=by omega
   obtain⟨z,D⟩:∃z,l[k]?=some z:=⟨l[k]'(by rw[i.out.2.2.2.2];exact M),List.getElem?_eq_getElem _⟩
   have A:=i.out.2.2.1 z (List.mem_of_getElem? D)
   have T:(z:Int)<(n:Int):=by omega
   obtain⟨b,o,rfl,cz⟩:=vj (i.out.2.2.2.1.below J.out.1) D
   have H:=i.out.1.below J.out.1
   obtain⟨c8,c9,-⟩:=H.cells
   have ce:=qrm H.emp A
   have cf:=uac H.fst A
   have y:=uau (uaa i.out.2.1 z)
   have a0:=bits_or_u64_nat d (wd F z) g y
   have x:d ||| wd F z<18446744073709551616:=uaq g y
   have C:Hid (l[k]?=some z):=D
   have U:Hid (∀q N,Below W.heap.size W ((wr.drewN q).drewN N)):=fun q N=>yh (yh J.out.1 q) N
   have I:Hid (∀q,Below W.heap.size W (wr.drewN q)):=fun q=>yh J.out.1 q
   have mx:=qay
   clear H D
   cases j:isF E z
   ·rw[j]at ce
    have s:Hid (Ending.returned (.tuple #[.int .u64 ((d ||| wd F z:Nat):Int),.bool false])=Ending.returned (.tuple #[.int .u64 ((ofW E F l).1:Int),.bool (ofW E F l).2])):=by
     show _=_
     obtain⟨K,t⟩:=uck C.out j J.out.2
     rw[K,<-t]
    clear J j C
    go_upto_region 5 with fail
    go_quiet (fail)
    go_upto_region 6 with fail
    go_quiet (fail)
    go_wp2_with fail
    refine bodyPost_ret (v:=.tuple #[.int .u64 ((d ||| wd F z:Nat):Int),.bool false]) (by simp[results,Tryz.results56,go_sem]) rfl ?_
    exact⟨s.out,U.out _ _⟩
   ·rw[j]at ce
    have s:Hid ((d ||| wd F z) ||| (ofW E F (l.drop (k+1))).1=(ofW E F l).1/\(ofW E F (l.drop (k+1))).2=(ofW E F l).2):=ucf C.out j J.out.2
    clear J j C
    go_upto_region 5 with fail
    go_quiet (fail)
    go_upto_region 6 with fail
    go_quiet (fail)
    go_wp2_with fail
    go_roundg (m - (k+1))
    case measure=>omega
    case rel=>exact⟨k+1,d ||| wd F z,by simp,rfl,by omega,x,Nat.le_refl _,(⟨I.out _,s.out⟩:Below W.heap.size W (wr.drewN _)/\_)⟩
  ·have u:¬(k:Int)<(m:Int):=by omega
   have s:Hid (Ending.returned (.tuple #[.int .u64 (d:Int),.bool true])=Ending.returned (.tuple #[.int .u64 ((ofW E F l).1:Int),.bool (ofW E F l).2])/\Below W.heap.size W wr):=by
    have Y:k=m:=by omega
    obtain⟨K,t,L⟩:=J.out
    have hd:l.drop k=[]:=List.drop_eq_nil_of_le (by rw[i.out.2.2.2.2];omega)
    rw[hd]at t L
    have V:(ofW E F []).1=0:=rfl
    have X:(ofW E F []).2=true:=rfl
    rw[V,Nat.or_zero]at t
    rw[X]at L
    refine⟨?_,K⟩
    rw[t,<-L]
   clear J
   go_wp2_with fail
   refine bodyPost_ret (v:=.tuple #[.int .u64 (d:Int),.bool true]) (by simp[results,Tryz.results56,go_sem]) rfl ?_
   exact s.out
theorem ub5(W:World)(B s:Nat)(p:RP8)(h:SHd)(S:Sp)(n:Nat)(E:List Bool)(F G:List Nat)(r:RT8 W B s p h S n E F G)(t:∀w∈F,w<2 ^ 64)(l:List Nat)(a:Option Addr)(m c:Nat)(A:l.length=m)(v:m<=1000)(d:Row W 1 a m c (natC l))(y:∀z∈l,z<n)(b:Nat)(C:b<64):
  Calls Tryz.prog 37 #[.pointer (some ⟨s,0,none⟩),.slice a m c,.int .i64 (b:Int)] W fun e q=>e=.returned (.int .u64 ((if (ofW E F l).2 then (ofW E F l).1 ||| 2 ^ b else (ofW E F l).1:Nat):Int))/\Below W.heap.size W q:=by
 have g:Hid (Calls Tryz.prog 56 #[.pointer (some ⟨s,0,none⟩),.slice a m c] W fun e q=>e=.returned (.tuple #[.int .u64 ((ofW E F l).1:Int),.bool (ofW E F l).2])/\Below W.heap.size W q):=uam W B s p h S n E F G r t l a m c A v d y
 have k:=uau (yr E t l)
 have i:(2 ^ b:Nat)<18446744073709551616:=Nat.pow_lt_pow_right (by decide) (by omega:b<64)
 have o:=bits_or_u64_nat (ofW E F l).1 (2 ^ b) k i
 have x:Hid (∀V:World,Calls Tryz.prog 55 #[.int .i64 (b:Int)] V fun e q=>e=.returned (.int .u64 ((2 ^ b:Nat):Int))/\q=V):=fun V=>uav V b C
 clear r t A d y
 generalize 2 ^ b=D at i o x ⊢
 generalize (ofW E F l).1=u at k o g ⊢
 cases j:(ofW E F l).2
 ·rw[j]at g
  go_enter Tryz.func37,Tryz.ntmps37
  go_wp2_with fail
  refine g.out.mono ?_
  rintro e w1 ⟨rfl,f⟩
  go_wp2_with fail
  go_ret
  exact⟨by simp,f⟩
 ·rw[j]at g
  go_enter Tryz.func37,Tryz.ntmps37
  go_wp2_with fail
  refine g.out.mono ?_
  rintro e w1 ⟨rfl,f⟩
  go_wp2_with fail
  refine(x.out w1).mono ?_
  rintro e w2 ⟨rfl,rfl⟩
  go_wp2_with fail
  go_ret
  exact⟨by simp,f⟩
theorem uad{m:Nat}{Q:Nat->Prop}(h:∀t,t<m->¬Q t):IsL m Q []:=⟨fun _=>false,fun t a=>⟨fun e=>(by cases e),fun e=>absurd e (h t a)⟩,by simp⟩
theorem ub6(w a:World){m:Nat}{Q:Nat->Prop}(h:∀t,t<m->¬Q t)(b:Below w.heap.size w a):Told w a m Q (.returned (.slice none 0 0)):=⟨[],none,0,rfl,uad h,World.ownsRow_nil _ _ _ _,b⟩
theorem ucl(W:World)(B b n:Nat)(p:FP)(E:List Bool)(S:Sp)(o:List (List Nat))(h:FS W B b p n S E o)(x:Int)(d:¬(x≠(S.tk:Int)/\0<=x/\x<(n:Int)))(v:Nat)(c0:W.cell? ⟨v,0,none⟩=some (.int .i64 x)):
  Calls Tryz.prog 19 #[.pointer (some ⟨b,0,none⟩),.slice (some ⟨v,0,none⟩) 1 1,.int .i64 (-1)] W fun e f=>Told W f (S.tk+1) (fun _=>False) e:=by
 have C:=h.fm.c0
 have i:=h.fm.c1
 have hd:decide (x≠(S.tk:Int)/\0<=x/\x<(n:Int))=false:=decide_eq_false d
 have z:Hid (Calls Tryz.prog 23 #[.pointer (some ⟨b,0,none⟩),.int .i64 x] W fun e H=>e=.returned (.bool false)/\H=W):=by
  by_cases g:0<=x/\x<(n:Int)
  ·have m:x=(S.tk:Int):=Classical.byContradiction fun j=>d ⟨j,g⟩
   subst m
   have c:S.tk<n:=by have:=h.nn;omega
   have:=qc0 W b p.eb n n S.tk (isF E S.tk) i c (h.fm.ce c)
   cases r:isF E S.tk
   ·rw[r]at this
    exact this
   ·have:=(ql1 h.wf ((h.emp _).1 r)).1
    omega
  ·exact ua2 W b n n _ x i g
 have y:Hid (Calls Tryz.prog 50 #[.pointer (some ⟨b,0,none⟩),.slice none 0 0] W fun e f=>Told W f (S.tk+1) (fun _=>False) e):=by
  refine(qef W B b n S.tk W.heap.size p E o h.fm h.ways.ins (fun k G=>(h.fm.lt G).2.1) (Nat.le_refl _) [] none 0 0 rfl (World.ownsRow_nil _ _ _ _) (fun x d=>by cases d) h.wl (by have:=h.tt;omega) (by have:=h.ways.len;have:=h.nn;omega)).mono ?_
  rintro e f ⟨l,s,u,g,j,D⟩
  exact⟨l,s,u,g,j.congr (fun t _=>⟨fun⟨a,F,_⟩=>(by cases F),fun h=>h.elim⟩),D⟩
 clear h d
 go_enter Tryz.func19,Tryz.ntmps19
 go_wp2_with fail
 go_loopg [14,7] 1 (fun kx s14 s7 wr=>s14=.int .i64 0/\s7=.slice none 0 0/\wr=W)
 case atStart=>exact⟨rfl,rfl,rfl⟩
 case round =>
  obtain⟨rfl,rfl,rfl⟩:=hrel
  go_wp2_with fail
  refine(qee wr b S.tk n n (some ⟨p.eb,0,none⟩) C i x).mono ?_
  rintro e w1 ⟨rfl,rfl⟩
  rw[hd]
  go_wp2_with fail
  refine z.out.mono ?_
  rintro e w2 ⟨rfl,rfl⟩
  go_wp2_with fail
  refine y.out.mono ?_
  rintro e I q
  have A:Hid (Told w2 I (S.tk+1) (fun _=>False) e):=q
  obtain⟨l,s,u,rfl,-⟩:=q
  go_wp2_with fail
  go_ret
  exact A.out
theorem ubr(W:World)(B b n:Nat)(p:FP)(E:List Bool)(S:Sp)(f:List (List Nat))(h:FS W B b p n S E f)(x:Int)(m:¬(x≠(S.tk:Int)/\0<=x/\x<(n:Int))):
  Calls Tryz.prog 20 #[.pointer (some ⟨b,0,none⟩),.int .i64 x] W fun e a=>Told W a (S.tk+1) (fun _=>False) e:=by
 have d:Below W.heap.size W (W.alloc (.cells #[.int .i64 x] 3)):=qb _ _
 have g:(W.alloc (.cells #[.int .i64 x] 3)).heap[W.heap.size]?=some (.cells #[.int .i64 x] 3 (0,0)):=heap_alloc_new _ _
 have i:Hid (Calls Tryz.prog 19 #[.pointer (some ⟨b,0,none⟩),.slice (some ⟨W.heap.size,0,none⟩) 1 1,.int .i64 (-1)] (W.alloc (.cells #[.int .i64 x] 3)) fun e a=>Told (W.alloc (.cells #[.int .i64 x] 3)) a (S.tk+1) (fun _=>False) e) :=
  ucl _ B b n p E S f (h.below d) x m W.heap.size (by rw[qe g];rfl)
 have k:Hid (∀e a,Told (W.alloc (.cells #[.int .i64 x] 3)) a (S.tk+1) (fun _=>False) e->Told W a (S.tk+1) (fun _=>False) e):=fun e a c=>c.up d
 clear h d g
 go_enter Tryz.func20,Tryz.ntmps20
 go_wp2_with fail
 refine i.out.mono ?_
 rintro e a c
 have j:Hid (Told W a (S.tk+1) (fun _=>False) e):=k.out e a c
 obtain⟨l,o,q,rfl,-⟩:=c
 go_wp2_with fail
 go_ret
 exact j.out
theorem ubg(W:World)(B a n:Nat)(p:FP)(E:List Bool)(S:Sp)(d:List (List Nat))(h:FS W B a p n S E d)(x:Int)(b:¬((S.tk:Int)<x/\x<(n:Int))):
  Calls Tryz.prog 21 #[.pointer (some ⟨a,0,none⟩),.int .i64 x] W fun e c=>e=.returned (.slice none 0 0)/\c=W:=by
 have f:=h.fm.c0
 have g:=h.fm.c1
 have hd:decide ((S.tk:Int)<x/\x<(n:Int))=false:=decide_eq_false b
 clear h b
 go_enter Tryz.func21,Tryz.ntmps21
 go_wp2_with fail
 refine(jt W a S.tk n n (some ⟨p.eb,0,none⟩) f g x).mono ?_
 rintro e w1 ⟨rfl,rfl⟩
 rw[hd]
 go_wp2_with fail
 go_ret
 exact⟨rfl,rfl⟩
end Go.Proofs.YtngclmglmhiljaaGreatDoor
