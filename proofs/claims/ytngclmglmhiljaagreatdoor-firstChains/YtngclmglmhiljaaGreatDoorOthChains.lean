/- Texts that the proof of FirstChains stands on beside those. -/
import Derived.Test.YtngclmglmhiljaaGreatDoorPre15
set_option maxHeartbeats 16000000
set_option maxRecDepth 100000
namespace Go.Proofs.YtngclmglmhiljaaGreatDoor
open Go.RowKit
theorem IsL.mem{m:Nat}{P:Nat->Prop}{l:List Nat}(h:IsL m P l){t:Nat}:t∈l↔t<m/\P t:=by
 obtain⟨b,d,rfl⟩:=h
 rw[List.mem_filter,List.mem_range]
 constructor
 ·rintro⟨a,c⟩;exact⟨a,(d t a).1 c⟩
 ·rintro⟨a,c⟩;exact⟨a,(d t a).2 c⟩
theorem kb{w:World}{a E k n:Nat}{v:Value}{cs:List Value}(h:w.ownsRow a E k v n cs){b T:Nat}{d:Array Value}{j:Nat × Nat}(f:w.heap[b]?=some (.cells d T j))(l:E≠T):v.ownBlock≠some b:=by
 intro i
 rcases h.2 with ⟨rfl,-⟩ | ⟨g,c,cur',rfl,-,hh,-⟩
 ·cases i
 ·simp only[Value.ownBlock,Option.some.injEq]at i
  subst i
  rw[hh]at f
  simp only[Option.some.injEq,Obj.cells.injEq]at f
  exact l f.2.1
theorem xr{w o:World}{b a E d k l n m:Nat}{v v2:Value}{cs c:List Value}(h:w.ownsRow b E k v n cs)(f:w.ownsRow a d l v2 m c)(p:E≠d)(q:w.grownBy o v.ownBlock):o.ownsRow a d l v2 m c :=
 qh f (fun i j=>q.block i (World.ownsRow.lt f i j).2 (fun e=>qfm h f p (g:=i) e.symm j))
def vu (h:Hd) (G:Gm):Array Value:=#[.slice h.ta G.ts.length h.tc,.string G.s,.int .i64 G.e,.slice h.ra G.rs.length h.rc]
structure GB (w wr:World) (gb:Nat) (h:Hd) (G:Gm) (qs:List (Ru × Option Addr × Nat)):Prop where
 box:wr.heap[gb]?=some (.cells (vu h G) 25 (0,0))
 own:OwnG wr w.heap.size h G qs
 bel:Below w.heap.size w wr
 new:w.heap.size<=gb
theorem GB.step{w wr a:World}{c:Nat}{h:Hd}{G:Gm}{qs:List (Ru × Option Addr × Nat)}(g:GB w wr c h G qs)(b:Below wr.heap.size wr a):GB w a c h G qs :=
 ⟨qf b g.box,g.own.below b,qd g.bel b,g.new⟩
theorem GB.cells{w wr:World}{a:Nat}{h:Hd}{G:Gm}{qs:List (Ru × Option Addr × Nat)}(g:GB w wr a h G qs):
  wr.cell? ⟨a,0,none⟩=some (.slice h.ta G.ts.length h.tc)/\wr.cell? ⟨a,1,none⟩=some (.string G.s)/\wr.cell? ⟨a,2,none⟩=some (.int .i64 G.e)/\wr.cell? ⟨a,3,none⟩=some (.slice h.ra G.rs.length h.rc)/\∀j,wr.frozen? ⟨a,j,none⟩=false :=
 ⟨by rw[qe g.box];rfl,by rw[qe g.box];rfl,by rw[qe g.box];rfl,by rw[qe g.box];rfl,qi g.box⟩
theorem OwnG.box{w:World}{a f j:Nat}{h:Hd}{G:Gm}{qs:List (Ru × Option Addr × Nat)}{c:Array Value}{T:Nat}{u:Value}(o:OwnG w a h G qs)(d:w.heap[f]?=some (.cells c T (0,0)))(k:T≠58)(l:T≠55)(m:T≠9):OwnG (w.setCell ⟨f,j,none⟩ u) a h G qs:=by
 refine⟨?_,?_,o.map,fun q g=>?_⟩
 ·exact qh o.tok (fun i b=>Below.heap_setCell _ _ _ _ (fun e=>by simp only at e;subst e;exact kb o.tok d (Ne.symm k) b))
 ·exact qh o.rul (fun i b=>Below.heap_setCell _ _ _ _ (fun e=>by simp only at e;subst e;exact kb o.rul d (Ne.symm l) b))
 ·exact qh (o.row q g) (fun i b=>Below.heap_setCell _ _ _ _ (fun e=>by simp only at e;subst e;exact kb (o.row q g) d (Ne.symm m) b))
theorem GB.addTok{w W:World}{m:Nat}{h:Hd}{G:Gm}{qs:List (Ru × Option Addr × Nat)}(g:GB w W m h G qs)(J:G.ts.length<=1000)(t:Tk):
  ∃f n c o,(Builtin.append_ #[22,22] 22 #[.slice h.ta G.ts.length h.tc,.slice (some ⟨W.heap.size,0,none⟩) 1 1]).run Tryz.prog (W.alloc (.cells #[.string t.n,.int .i64 t.l,.int .i64 t.a] 58))=.ok (.slice f n c) o/\n=G.ts.length+1/\o.heap[m]?=some (.cells (vu h G) 25 (0,0)) /\
   GB w (o.setCell ⟨m,0,none⟩ (.slice f n c)) m ⟨f,c,h.ra,h.rc⟩ ⟨G.ts++[t],G.s,G.e,G.rs⟩ qs:=by
 obtain⟨I,C,y,z,A⟩:=info_parts Tryz.info58
 have d:=g.step (qb W (.cells #[.string t.n,.int .i64 t.l,.int .i64 t.a] 58))
 have r:∀j u,(tokC [t])[j]?=some u->(W.alloc (.cells #[.string t.n,.int .i64 t.l,.int .i64 t.a] 58)).cell? ((⟨W.heap.size,0,none⟩:Addr).add j)=some u:=by
  intro j u x
  rw[Addr.add_lit,Nat.zero_add,World.cell?_alloc_mark,<-x]
  exact List.getElem?_toArray (xs:=tokC [t]) (i:=j)
 obtain⟨v',o,H,B,v,-⟩:=run_append_own (P:=Tryz.prog) (W.alloc (.cells #[.string t.n,.int .i64 t.l,.int .i64 t.a] 58)) w.heap.size 22 22 58 I _ 3 32 Tryz.underlying22 C y z A rfl (by decide) _ G.ts.length _ d.own.tok ⟨W.heap.size,0,none⟩ 1 1 (tokC [t]) rfl r
  (fun u x=>by simp[tokC]at x;rcases x with rfl | rfl | rfl <;> rfl) (by unfold maxLen;omega) (by omega) (by have:=d.bel.size;exact this)
 obtain⟨f,c,rfl,-⟩:=zh B
 have b:o.heap[m]?=some (.cells (vu h G) 25 (0,0)):=by
  rw[v.block m (Array.getElem?_eq_some_iff.1 d.box).1 (fun e=>kb d.own.tok d.box (by decide) e.symm)]
  exact d.box
 have E:OwnG o w.heap.size ⟨f,c,h.ra,h.rc⟩ ⟨G.ts++[t],G.s,G.e,G.rs⟩ qs:=by
  refine⟨?_,xr d.own.tok d.own.rul (by decide) v,g.own.map,fun q F=>xr d.own.tok (d.own.row q F) (by decide) v⟩
  simp only
  rw[qe1,List.length_append]
  exact B
 refine⟨f,_,c,o,H,rfl,b,?_,E.box b (by decide) (by decide) (by decide),?_,g.new⟩
 ·have:(vu h G).setIfInBounds 0 (.slice f (G.ts.length+1) c)=vu ⟨f,c,h.ra,h.rc⟩ ⟨G.ts++[t],G.s,G.e,G.rs⟩:=by
   unfold vu
   simp
  rw[setCell_eq_setRow o m 0 _ 25 (0,0) _ b,this]
  exact setRow_heap _ _ _ _ 25 _ b
 ·exact(d.bel.grown v (d.bel.size) (fun k D=>(World.ownsRow.lt d.own.tok k D).1)).setCell (p:=⟨m,0,none⟩) g.new _
theorem GB.addRule{w W:World}{t:Nat}{h:Hd}{G:Gm}{qs:List (Ru × Option Addr × Nat)}(g:GB w W t h G qs)(O:G.rs.length<=1000)(r:Ru)(d:Option Addr)(f m:Nat)(M:OwnS W w.heap.size (.slice d m f) r.r)(I:m=r.r.length):
  ∃o n c v,(Builtin.append_ #[23,23] 23 #[.slice h.ra G.rs.length h.rc,.slice (some ⟨W.heap.size,0,none⟩) 1 1]).run Tryz.prog (W.alloc (.cells #[.string r.l,.slice d m f,.string r.p] 55))=.ok (.slice o n c) v/\n=G.rs.length+1/\v.heap[t]?=some (.cells (vu h G) 25 (0,0)) /\
   GB w (v.setCell ⟨t,3,none⟩ (.slice o n c)) t ⟨h.ta,h.tc,o,c⟩ ⟨G.ts,G.s,G.e,G.rs++[r]⟩ (qs++[(r,d,f)]):=by
 subst I
 obtain⟨N,F,B,C,D⟩:=info_parts Tryz.info55
 have a:=g.step (qb W (.cells #[.string r.l,.slice d r.r.length f,.string r.p] 55))
 have A:=M.below (qb W (.cells #[.string r.l,.slice d r.r.length f,.string r.p] 55))
 have x:∀j u,(rulC [(r,d,f)])[j]?=some u->(W.alloc (.cells #[.string r.l,.slice d r.r.length f,.string r.p] 55)).cell? ((⟨W.heap.size,0,none⟩:Addr).add j)=some u:=by
  intro j u z
  rw[Addr.add_lit,Nat.zero_add,World.cell?_alloc_mark,<-z]
  exact List.getElem?_toArray (xs:=rulC [(r,d,f)]) (i:=j)
 obtain⟨v',v,L,E,y,-⟩:=run_append_own (P:=Tryz.prog) (W.alloc (.cells #[.string r.l,.slice d r.r.length f,.string r.p] 55)) w.heap.size 23 23 55 N _ 3 56 Tryz.underlying23 F B C D rfl (by decide) _ G.rs.length _ a.own.rul ⟨W.heap.size,0,none⟩ 1 1 (rulC [(r,d,f)]) rfl x
  (fun u z=>by simp[rulC]at z;rcases z with rfl | rfl | rfl <;> rfl) (by unfold maxLen;omega) (by omega) (by have:=a.bel.size;exact this)
 obtain⟨o,c,rfl,-⟩:=zh E
 have b:v.heap[t]?=some (.cells (vu h G) 25 (0,0)):=by
  rw[y.block t (Array.getElem?_eq_some_iff.1 a.box).1 (fun e=>kb a.own.rul a.box (by decide) e.symm)]
  exact a.box
 have J:OwnG v w.heap.size ⟨h.ta,h.tc,o,c⟩ ⟨G.ts,G.s,G.e,G.rs++[r]⟩ (qs++[(r,d,f)]):=by
  refine⟨xr a.own.rul a.own.tok (by decide) y,?_,?_,fun q K=>?_⟩
  ·simp only
   rw[qe2,List.length_append]
   exact E
  ·simp only
   rw[List.map_append,g.own.map]
   rfl
  ·rcases List.mem_append.1 K with h4 | h4
   ·exact xr a.own.rul (a.own.row q h4) (by decide) y
   ·rw[List.mem_singleton]at h4
    subst h4
    exact xr a.own.rul A (by decide) y
 refine⟨o,_,c,v,L,rfl,b,?_,J.box b (by decide) (by decide) (by decide),?_,g.new⟩
 ·have:(vu h G).setIfInBounds 3 (.slice o (G.rs.length+1) c)=vu ⟨h.ta,h.tc,o,c⟩ ⟨G.ts,G.s,G.e,G.rs++[r]⟩:=by
   unfold vu
   simp
  rw[setCell_eq_setRow v t 3 _ 25 (0,0) _ b,this]
  exact setRow_heap _ _ _ _ 25 _ b
 ·exact(a.bel.grown y (a.bel.size) (fun k H=>(World.ownsRow.lt a.own.rul k H).1)).setCell (p:=⟨t,3,none⟩) g.new _
end Go.Proofs.YtngclmglmhiljaaGreatDoor
