/- Texts that the proof of FirstAny stands on beside those. -/
import Derived.Deep.SlicePairs
import Derived.Deep.Strs
import Derived.Deep.RegionHeld
import Derived.Deep.RegionLaw
import Derived.Test.YtngclmglmhiljaaGreatDoorOwn15
set_option maxHeartbeats 16000000
set_option maxRecDepth 100000
namespace Go.Proofs.YtngclmglmhiljaaGreatDoor
open Go.RowKit
def cutS (s:ByteArray) (n:Nat):ByteArray:=if n<s.size then s.extract 0 n else s
theorem qo1 (s:ByteArray) (n:Nat):(cutS s n).size<=n:=by
 unfold cutS
 split
 ·rw [<-qy,z9];unfold part;simp;omega
 ·omega
theorem qbe (s:ByteArray) (n:Nat) (w:World):Calls Tryz.prog 34 #[.string s,.int .i64 n] w fun e w'=>e=.returned (.string (cutS s n))/\w'=w:=by
 by_cases h:n<s.size
 ·have H:Hid (cutS s n=s.extract 0 n):=by show _=_;unfold cutS;rw [if_pos h]
  generalize cutS s n=r at H
  go_enter Tryz.func34,Tryz.ntmps34
  go_wp2
  go_ret
  exact ⟨by rw [H.out];rfl,rfl⟩
 ·have H:Hid (cutS s n=s):=by show _=_;unfold cutS;rw [if_neg h]
  generalize cutS s n=r at H
  go_enter Tryz.func34,Tryz.ntmps34
  go_wp2
  go_ret
  exact ⟨by rw [H.out];rfl,rfl⟩
theorem FstL.lt {S:Sp} {l:List Nat} {a:Nat} (h:FstL S l a):a<S.tk:=by obtain ⟨_,_,_,_,_,h⟩:=h;exact h.lt
theorem vu {w:World} {base E k n:Nat} {v:Value} {cs:List Value} (h:w.ownsRow base E k v n cs) {b T:Nat} {cur:Array Value} {fr:Nat × Nat} (hb:w.heap[b]?=some (.cells cur T fr)) (hE:E≠T):v.ownBlock≠some b:=by
 intro hg
 rcases h.2 with ⟨rfl,-⟩ | ⟨g,c,cur',rfl,-,hh,-⟩
 ·cases hg
 ·simp only [Value.ownBlock,Option.some.injEq] at hg
  subst hg
  rw [hh] at hb
  simp only [Option.some.injEq,Obj.cells.injEq] at hb
  exact hE hb.2.1
theorem qbf {w w':World} {base base2 E E2 k k2 n n2:Nat} {v v2:Value} {cs cs2:List Value} (h:w.ownsRow base E k v n cs) (h2:w.ownsRow base2 E2 k2 v2 n2 cs2) (hE:E≠E2) (hg:w.grownBy w' v.ownBlock):w'.ownsRow base2 E2 k2 v2 n2 cs2 :=
 qh h2 (fun i hi=>hg.block i (World.ownsRow.lt h2 i hi).2 (fun e=>qfm h h2 hE (g:=i) e.symm hi))
def boxC (h:Hd) (G:Gm):Array Value:=#[.slice h.ta G.ts.length h.tc,.string G.s,.int .i64 G.e,.slice h.ra G.rs.length h.rc]
structure GB (w wr:World) (gb:Nat) (h:Hd) (G:Gm) (qs:List (Ru × Option Addr × Nat)):Prop where
 box:wr.heap[gb]?=some (.cells (boxC h G) 25 (0,0))
 own:OwnG wr w.heap.size h G qs
 bel:Below w.heap.size w wr
 new:w.heap.size<=gb
theorem GB.step {w wr wr':World} {gb:Nat} {h:Hd} {G:Gm} {qs:List (Ru × Option Addr × Nat)} (g:GB w wr gb h G qs) (hb:Below wr.heap.size wr wr'):GB w wr' gb h G qs :=
 ⟨qf hb g.box,g.own.below hb,qd g.bel hb,g.new⟩
theorem GB.cells {w wr:World} {gb:Nat} {h:Hd} {G:Gm} {qs:List (Ru × Option Addr × Nat)} (g:GB w wr gb h G qs) :
  wr.cell? ⟨gb,0,none⟩=some (.slice h.ta G.ts.length h.tc)/\wr.cell? ⟨gb,1,none⟩=some (.string G.s)/\wr.cell? ⟨gb,2,none⟩=some (.int .i64 G.e)/\wr.cell? ⟨gb,3,none⟩=some (.slice h.ra G.rs.length h.rc)/\∀ j,wr.frozen? ⟨gb,j,none⟩=false :=
 ⟨by rw [qe g.box];rfl,by rw [qe g.box];rfl,by rw [qe g.box];rfl,by rw [qe g.box];rfl,qi g.box⟩
theorem OwnG.box {w:World} {base gb j:Nat} {h:Hd} {G:Gm} {qs:List (Ru × Option Addr × Nat)} {cur:Array Value} {T:Nat} {u:Value} (o:OwnG w base h G qs) (hb:w.heap[gb]?=some (.cells cur T (0,0))) (h1:T≠58) (h2:T≠55) (h3:T≠9):OwnG (w.setCell ⟨gb,j,none⟩ u) base h G qs:=by
 refine ⟨?_,?_,o.map,fun q hq=>?_⟩
 ·exact qh o.tok (fun i hi=>Below.heap_setCell _ _ _ _ (fun e=>by simp only at e;subst e;exact vu o.tok hb (Ne.symm h1) hi))
 ·exact qh o.rul (fun i hi=>Below.heap_setCell _ _ _ _ (fun e=>by simp only at e;subst e;exact vu o.rul hb (Ne.symm h2) hi))
 ·exact qh (o.row q hq) (fun i hi=>Below.heap_setCell _ _ _ _ (fun e=>by simp only at e;subst e;exact vu (o.row q hq) hb (Ne.symm h3) hi))
theorem GB.addTok {w W:World} {gb:Nat} {h:Hd} {G:Gm} {qs:List (Ru × Option Addr × Nat)} (g:GB w W gb h G qs) (hn:G.ts.length<=1000) (t:Tk) :
  ∃ ao n c w',(Builtin.append_ #[22,22] 22 #[.slice h.ta G.ts.length h.tc,.slice (some ⟨W.heap.size,0,none⟩) 1 1]).run Tryz.prog (W.alloc (.cells #[.string t.n,.int .i64 t.l,.int .i64 t.a] 58))=.ok (.slice ao n c) w'/\n=G.ts.length+1/\w'.heap[gb]?=some (.cells (boxC h G) 25 (0,0)) /\
   GB w (w'.setCell ⟨gb,0,none⟩ (.slice ao n c)) gb ⟨ao,c,h.ra,h.rc⟩ ⟨G.ts++[t],G.s,G.e,G.rs⟩ qs:=by
 obtain ⟨i0,hi,hz0,hz1,hz2⟩:=info_parts Tryz.info58
 have g1:=g.step (qb W (.cells #[.string t.n,.int .i64 t.l,.int .i64 t.a] 58))
 have hnews:∀ j u,(tokC [t])[j]?=some u->(W.alloc (.cells #[.string t.n,.int .i64 t.l,.int .i64 t.a] 58)).cell? ((⟨W.heap.size,0,none⟩:Addr).add j)=some u:=by
  intro j u hu
  rw [Addr.add_lit,Nat.zero_add,World.cell?_alloc_mark,<-hu]
  exact List.getElem?_toArray (xs:=tokC [t]) (i:=j)
 obtain ⟨v',w',hr,h2,h3,-⟩:=run_append_own (P:=Tryz.prog) (W.alloc (.cells #[.string t.n,.int .i64 t.l,.int .i64 t.a] 58)) w.heap.size 22 22 58 i0 _ 3 32 Tryz.underlying22 hi hz0 hz1 hz2 rfl (by decide) _ G.ts.length _ g1.own.tok ⟨W.heap.size,0,none⟩ 1 1 (tokC [t]) rfl hnews
  (fun u hu=>by simp [tokC] at hu;rcases hu with rfl | rfl | rfl <;> rfl) (by unfold maxLen;omega) (by omega) (by have:=g1.bel.size;exact this)
 obtain ⟨ao,c,rfl,-⟩:=zh h2
 have hbox:w'.heap[gb]?=some (.cells (boxC h G) 25 (0,0)):=by
  rw [h3.block gb (Array.getElem?_eq_some_iff.1 g1.box).1 (fun e=>vu g1.own.tok g1.box (by decide) e.symm)]
  exact g1.box
 have ho:OwnG w' w.heap.size ⟨ao,c,h.ra,h.rc⟩ ⟨G.ts++[t],G.s,G.e,G.rs⟩ qs:=by
  refine ⟨?_,qbf g1.own.tok g1.own.rul (by decide) h3,g.own.map,fun q hq=>qbf g1.own.tok (g1.own.row q hq) (by decide) h3⟩
  simp only
  rw [qe1,List.length_append]
  exact h2
 refine ⟨ao,_,c,w',hr,rfl,hbox,?_,ho.box hbox (by decide) (by decide) (by decide),?_,g.new⟩
 ·have:(boxC h G).setIfInBounds 0 (.slice ao (G.ts.length+1) c)=boxC ⟨ao,c,h.ra,h.rc⟩ ⟨G.ts++[t],G.s,G.e,G.rs⟩:=by
   unfold boxC
   simp
  rw [setCell_eq_setRow w' gb 0 _ 25 (0,0) _ hbox,this]
  exact setRow_heap _ _ _ _ 25 _ hbox
 ·exact (g1.bel.grown h3 (g1.bel.size) (fun k hk=>(World.ownsRow.lt g1.own.tok k hk).1)).setCell (p:=⟨gb,0,none⟩) g.new _
theorem GB.addRule {w W:World} {gb:Nat} {h:Hd} {G:Gm} {qs:List (Ru × Option Addr × Nat)} (g:GB w W gb h G qs) (hn:G.rs.length<=1000) (r:Ru) (xa:Option Addr) (xc m:Nat) (hx:OwnS W w.heap.size (.slice xa m xc) r.r) (hm:m=r.r.length) :
  ∃ ao n c w',(Builtin.append_ #[23,23] 23 #[.slice h.ra G.rs.length h.rc,.slice (some ⟨W.heap.size,0,none⟩) 1 1]).run Tryz.prog (W.alloc (.cells #[.string r.l,.slice xa m xc,.string r.p] 55))=.ok (.slice ao n c) w'/\n=G.rs.length+1/\w'.heap[gb]?=some (.cells (boxC h G) 25 (0,0)) /\
   GB w (w'.setCell ⟨gb,3,none⟩ (.slice ao n c)) gb ⟨h.ta,h.tc,ao,c⟩ ⟨G.ts,G.s,G.e,G.rs++[r]⟩ (qs++[(r,xa,xc)]):=by
 subst hm
 obtain ⟨i0,hi,hz0,hz1,hz2⟩:=info_parts Tryz.info55
 have g1:=g.step (qb W (.cells #[.string r.l,.slice xa r.r.length xc,.string r.p] 55))
 have hx1:=hx.below (qb W (.cells #[.string r.l,.slice xa r.r.length xc,.string r.p] 55))
 have hnews:∀ j u,(rulC [(r,xa,xc)])[j]?=some u->(W.alloc (.cells #[.string r.l,.slice xa r.r.length xc,.string r.p] 55)).cell? ((⟨W.heap.size,0,none⟩:Addr).add j)=some u:=by
  intro j u hu
  rw [Addr.add_lit,Nat.zero_add,World.cell?_alloc_mark,<-hu]
  exact List.getElem?_toArray (xs:=rulC [(r,xa,xc)]) (i:=j)
 obtain ⟨v',w',hr,h2,h3,-⟩:=run_append_own (P:=Tryz.prog) (W.alloc (.cells #[.string r.l,.slice xa r.r.length xc,.string r.p] 55)) w.heap.size 23 23 55 i0 _ 3 56 Tryz.underlying23 hi hz0 hz1 hz2 rfl (by decide) _ G.rs.length _ g1.own.rul ⟨W.heap.size,0,none⟩ 1 1 (rulC [(r,xa,xc)]) rfl hnews
  (fun u hu=>by simp [rulC] at hu;rcases hu with rfl | rfl | rfl <;> rfl) (by unfold maxLen;omega) (by omega) (by have:=g1.bel.size;exact this)
 obtain ⟨ao,c,rfl,-⟩:=zh h2
 have hbox:w'.heap[gb]?=some (.cells (boxC h G) 25 (0,0)):=by
  rw [h3.block gb (Array.getElem?_eq_some_iff.1 g1.box).1 (fun e=>vu g1.own.rul g1.box (by decide) e.symm)]
  exact g1.box
 have ho:OwnG w' w.heap.size ⟨h.ta,h.tc,ao,c⟩ ⟨G.ts,G.s,G.e,G.rs++[r]⟩ (qs++[(r,xa,xc)]):=by
  refine ⟨qbf g1.own.rul g1.own.tok (by decide) h3,?_,?_,fun q hq=>?_⟩
  ·simp only
   rw [qe2,List.length_append]
   exact h2
  ·simp only
   rw [List.map_append,g.own.map]
   rfl
  ·rcases List.mem_append.1 hq with h4 | h4
   ·exact qbf g1.own.rul (g1.own.row q h4) (by decide) h3
   ·rw [List.mem_singleton] at h4
    subst h4
    exact qbf g1.own.rul hx1 (by decide) h3
 refine ⟨ao,_,c,w',hr,rfl,hbox,?_,ho.box hbox (by decide) (by decide) (by decide),?_,g.new⟩
 ·have:(boxC h G).setIfInBounds 3 (.slice ao (G.rs.length+1) c)=boxC ⟨h.ta,h.tc,ao,c⟩ ⟨G.ts,G.s,G.e,G.rs++[r]⟩:=by
   unfold boxC
   simp
  rw [setCell_eq_setRow w' gb 3 _ 25 (0,0) _ hbox,this]
  exact setRow_heap _ _ _ _ 25 _ hbox
 ·exact (g1.bel.grown h3 (g1.bel.size) (fun k hk=>(World.ownsRow.lt g1.own.rul k hk).1)).setCell (p:=⟨gb,3,none⟩) g.new _
theorem qsi (w W:World) (s:ByteArray) (e:Int) (hb:Below w.heap.size w W):GB w (W.alloc (.cells #[.slice none 0 0,.string s,.int .i64 e,.slice none 0 0] 25)) W.heap.size ⟨none,0,none,0⟩ ⟨[],s,e,[]⟩ [] :=
 ⟨heap_alloc_new _ _,⟨World.ownsRow_nil _ _ _ _,World.ownsRow_nil _ _ _ _,rfl,fun q h=>(by cases h)⟩,qd hb (qb _ _),hb.size⟩
theorem qcc {α:Type} (f:Nat->α) (n i:Nat) (x:α) (h:((List.range n).map f)[i]?=some x):i<n/\x=f i:=by
 rw [List.getElem?_map] at h
 obtain ⟨y,hy,rfl⟩:=Option.map_eq_some_iff.1 h
 obtain ⟨h1,h2⟩:=List.getElem?_eq_some_iff.1 hy
 rw [List.length_range] at h1
 rw [List.getElem_range] at h2
 subst h2
 exact ⟨h1,rfl⟩
end Go.Proofs.YtngclmglmhiljaaGreatDoor
namespace Go.Proofs.YtngclmglmhiljaaGreatDoor
open Go.RowKit Go.ChangeShapes Go.WideShapes
structure RawS (w:World) (ao:Option Addr) (n cap:Nat) (l:List ByteArray):Prop where
 len:n=l.length
 le:n<=cap/\cap<=9223372036854775807
 get:∀ (i:Nat) (s:ByteArray),l[i]?=some s->∃ b o,ao=some ⟨b,o,none⟩/\w.cell? ⟨b,o+i,none⟩=some (.string s)
structure RawG (w:World) (h:Hd) (G:Gm):Prop where
 tl:G.ts.length<=h.tc/\h.tc<=9223372036854775807
 rl:G.rs.length<=h.rc/\h.rc<=9223372036854775807
 tok:∀ (i:Nat) (t:Tk),G.ts[i]?=some t->∃ b o,h.ta=some ⟨b,o,none⟩/\w.cell? ⟨b,o+i * 3,none⟩=some (.string t.n)/\w.cell? ⟨b,o+i * 3+1,none⟩=some (.int .i64 t.l)/\w.cell? ⟨b,o+i * 3+2,none⟩=some (.int .i64 t.a)
 rul:∀ (i:Nat) (r:Ru),G.rs[i]?=some r->∃ b o xa xc,h.ra=some ⟨b,o,none⟩/\w.cell? ⟨b,o+i * 3,none⟩=some (.string r.l)/\w.cell? ⟨b,o+i * 3+1,none⟩=some (.slice xa r.r.length xc)/\w.cell? ⟨b,o+i * 3+2,none⟩=some (.string r.p)/\RawS w xa r.r.length xc r.r
theorem RawS.below {w w':World} {ao:Option Addr} {n cap:Nat} {l:List ByteArray} (h:RawS w ao n cap l) (hb:Below w.heap.size w w'):RawS w' ao n cap l :=
 ⟨h.len,h.le,fun i s hs=>by obtain ⟨b,o,e,c⟩:=h.get i s hs;exact ⟨b,o,e,qj hb c⟩⟩
theorem RawG.below {w w':World} {h:Hd} {G:Gm} (g:RawG w h G) (hb:Below w.heap.size w w'):RawG w' h G :=
 ⟨g.tl,g.rl,fun i t ht=>by obtain ⟨b,o,e,c0,c1,c2⟩:=g.tok i t ht;exact ⟨b,o,e,qj hb c0,qj hb c1,qj hb c2⟩,
  fun i r hr=>by obtain ⟨b,o,xa,xc,e,c0,c1,c2,c3⟩:=g.rul i r hr;exact ⟨b,o,xa,xc,e,qj hb c0,qj hb c1,qj hb c2,c3.below hb⟩⟩
theorem qnh {H:Type} {enc:TypeId × Value->H} {W:World} {fuel:Nat} {cs:List Value} {x:DataW H × List MemPlace} (h:DataW.trod enc Tryz.prog W 0 (fun _=>true) true fuel 28 cs=some x) :
  ∃ (ao:Option Addr) (n cap:Nat) (l:List ByteArray),cs=[.slice ao n cap]/\RawS W ao n cap l:=by
 rcases Go.Deep.open_strs Tryz.underlying28 Tryz.underlying9 (by kernel_rfl) h with ⟨hcs,_⟩ | ⟨a,len,cap,m,Sx,hcs,_,hl,hm,hmm,_,hx⟩
 ·exact ⟨none,0,0,[],hcs,rfl,⟨Nat.le_refl _,by omega⟩,fun i s hs=>by cases hs⟩
 ·refine ⟨some a,len,cap,(List.range len).map Sx,hcs,by simp,⟨hl,by unfold maxLen at hm;omega⟩,fun i s hs=>?_⟩
  obtain ⟨hi,rfl⟩:=qcc Sx len i s hs
  have hm':m=cap:=by simpa using hmm
  have hc:=(hx i (by omega)).1
  have h0:=(hx 0 (by omega)).1
  obtain ⟨b,off,spot⟩:=a
  have hspot:spot=none:=by simpa [Addr.add] using World.cell?_spot h0
  subst hspot
  rw [Addr.add_lit] at hc
  exact ⟨b,off,rfl,hc⟩
theorem qlv:Tryz.prog.underlying 55=some (.struct #[⟨"Left", 9,0,false, "", "", 0⟩,⟨"Right", 28,1,false, "", "", 16⟩,⟨"Prec", 9,2,false, "", "", 40⟩]):=by kernel_rfl
theorem qni:Tryz.prog.underlying 58=some (.struct #[⟨"Name", 9,0,false, "", "", 0⟩,⟨"Level", 3,1,false, "", "", 16⟩,⟨"Assoc", 3,2,false, "", "", 24⟩]):=by kernel_rfl
theorem c9:Tryz.prog.cellsOf 9=1:=by kernel_rfl
theorem c3':Tryz.prog.cellsOf 3=1:=by kernel_rfl
theorem c37:Tryz.prog.cellsOf 28=1:=by kernel_rfl
theorem c35:Tryz.prog.cellsOf 58=3:=by kernel_rfl
theorem c39:Tryz.prog.cellsOf 55=3:=by kernel_rfl
theorem c22:Tryz.prog.cellsOf 22=1:=by kernel_rfl
theorem c23:Tryz.prog.cellsOf 23=1:=by kernel_rfl
theorem c25:Tryz.prog.cellsOf 25=4:=by kernel_rfl
theorem qfc {W:World} {a:Addr} {i:Nat} {cs:List Value} (h:W.cells? 0 (a.add (i * 3)) 3=some cs):∃ v0 v1 v2,cs=[v0,v1,v2]/\W.cell? (a.add (i * 3))=some v0/\W.cell? (a.add (i * 3+1))=some v1/\W.cell? (a.add (i * 3+2))=some v2:=by
 obtain ⟨_,hlen,hcell⟩:=World.cells?_some h
 match cs,hlen with
 | [v0,v1,v2],_ =>
  have e0:=hcell 0 (by omega)
  have e1:=hcell 1 (by omega)
  have e2:=hcell 2 (by omega)
  rw [Go.Deep.add_add] at e0 e1 e2
  exact ⟨v0,v1,v2,rfl,by simpa using e0,by simpa using e1,by simpa using e2⟩
theorem qo2 {H:Type} {enc:TypeId × Value->H} {W:World} {fuel:Nat} {cs:List Value} {x:DataW H × List MemPlace} (h:DataW.trod enc Tryz.prog W 0 (fun _=>true) true fuel 22 cs=some x) :
  ∃ (ao:Option Addr) (n cap:Nat) (ts:List Tk),cs=[.slice ao n cap]/\n=ts.length/\(n<=cap/\cap<=9223372036854775807) /\
   ∀ (i:Nat) (t:Tk),ts[i]?=some t->∃ b o,ao=some ⟨b,o,none⟩/\W.cell? ⟨b,o+i * 3,none⟩=some (.string t.n)/\W.cell? ⟨b,o+i * 3+1,none⟩=some (.int .i64 t.l)/\W.cell? ⟨b,o+i * 3+2,none⟩=some (.int .i64 t.a):=by
 rcases Go.Deep.open_slice Tryz.underlying22 h with ⟨hcs,_⟩ | ⟨a,len,cap,m,n,D,Pl,hcs,_,hl,hm,hmm,_,hx⟩
 ·exact ⟨none,0,0,[],hcs,rfl,⟨Nat.le_refl _,by omega⟩,fun i s hs=>by cases hs⟩
 ·have hm':m=cap:=by simpa using hmm
  rw [c35] at hx
  have each:∀ i,i<len->∃ t:Tk,W.cell? (a.add (i * 3))=some (.string t.n)/\W.cell? (a.add (i * 3+1))=some (.int .i64 t.l)/\W.cell? (a.add (i * 3+2))=some (.int .i64 t.a):=fun i hi=>by
   obtain ⟨cs',h1,h2⟩:=hx i (by omega)
   obtain ⟨v0,v1,v2,rfl,e0,e1,e2⟩:=qfc h1
   obtain ⟨y0,y1,y2,k,_,_,f0,f1,f2⟩:=Go.Deep.trod_struct3 qni h2
   simp [c9,c3'] at f0 f1 f2
   obtain ⟨s,hs,-⟩:=DataW.trod_string Tryz.underlying9 f0
   obtain ⟨i1,g1,-⟩:=DataW.trod_int Tryz.underlying3 f1
   obtain ⟨i2,g2,-⟩:=DataW.trod_int Tryz.underlying3 f2
   simp only [List.cons.injEq,and_true] at hs g1 g2
   exact ⟨⟨s,i1,i2⟩,by rw [e0,hs],by rw [e1,g1],by rw [e2,g2]⟩
  haveI:Inhabited Tk:=⟨⟨⟨#[]⟩,0,0⟩⟩
  obtain ⟨f,hf⟩:=Go.Deep.choose_lt each
  refine ⟨some a,len,cap,(List.range len).map f,hcs,by simp,⟨hl,by unfold maxLen at hm;omega⟩,fun i t ht=>?_⟩
  obtain ⟨hi,rfl⟩:=qcc f len i t ht
  obtain ⟨k0,k1,k2⟩:=hf i hi
  obtain ⟨b,off,spot⟩:=a
  have hspot:spot=none:=by simpa [Addr.add] using World.cell?_spot (hf 0 (by omega)).1
  subst hspot
  rw [Addr.add_lit] at k0 k1 k2
  exact ⟨b,off,rfl,k0,k1,k2⟩
theorem qo3 {H:Type} {enc:TypeId × Value->H} {W:World} {fuel:Nat} {cs:List Value} {x:DataW H × List MemPlace} (h:DataW.trod enc Tryz.prog W 0 (fun _=>true) true fuel 23 cs=some x) :
  ∃ (ao:Option Addr) (n cap:Nat) (rs:List Ru),cs=[.slice ao n cap]/\n=rs.length/\(n<=cap/\cap<=9223372036854775807) /\
   ∀ (i:Nat) (r:Ru),rs[i]?=some r->∃ b o xa xc,ao=some ⟨b,o,none⟩/\W.cell? ⟨b,o+i * 3,none⟩=some (.string r.l)/\W.cell? ⟨b,o+i * 3+1,none⟩=some (.slice xa r.r.length xc)/\W.cell? ⟨b,o+i * 3+2,none⟩=some (.string r.p)/\RawS W xa r.r.length xc r.r:=by
 rcases Go.Deep.open_slice Tryz.underlying23 h with ⟨hcs,_⟩ | ⟨a,len,cap,m,n,D,Pl,hcs,_,hl,hm,hmm,_,hx⟩
 ·exact ⟨none,0,0,[],hcs,rfl,⟨Nat.le_refl _,by omega⟩,fun i s hs=>by cases hs⟩
 ·have hm':m=cap:=by simpa using hmm
  rw [c39] at hx
  have each:∀ i,i<len->∃ r:Ru,∃ xa xc,W.cell? (a.add (i * 3))=some (.string r.l)/\W.cell? (a.add (i * 3+1))=some (.slice xa r.r.length xc)/\W.cell? (a.add (i * 3+2))=some (.string r.p)/\RawS W xa r.r.length xc r.r:=fun i hi=>by
   obtain ⟨cs',h1,h2⟩:=hx i (by omega)
   obtain ⟨v0,v1,v2,rfl,e0,e1,e2⟩:=qfc h1
   obtain ⟨y0,y1,y2,k,_,_,f0,f1,f2⟩:=Go.Deep.trod_struct3 qlv h2
   simp [c9,c37] at f0 f1 f2
   obtain ⟨s,hs,-⟩:=DataW.trod_string Tryz.underlying9 f0
   obtain ⟨xa,xn,xc,l,g1,hl⟩:=qnh f1
   obtain ⟨p,hp,-⟩:=DataW.trod_string Tryz.underlying9 f2
   simp only [List.cons.injEq,and_true] at hs g1 hp
   have hln:=hl.len
   subst hln
   exact ⟨⟨s,l,p⟩,xa,xc,by rw [e0,hs],by rw [e1,g1],by rw [e2,hp],hl⟩
  haveI:Inhabited Ru:=⟨⟨⟨#[]⟩,[],⟨#[]⟩⟩⟩
  obtain ⟨f,hf⟩:=Go.Deep.choose_lt each
  refine ⟨some a,len,cap,(List.range len).map f,hcs,by simp,⟨hl,by unfold maxLen at hm;omega⟩,fun i t ht=>?_⟩
  obtain ⟨hi,rfl⟩:=qcc f len i t ht
  obtain ⟨xa,xc,k0,k1,k2,k3⟩:=hf i hi
  obtain ⟨b,off,spot⟩:=a
  have hspot:spot=none:=by
   obtain ⟨_,_,z0,-⟩:=hf 0 (by omega)
   simpa [Addr.add] using World.cell?_spot z0
  subst hspot
  rw [Addr.add_lit] at k0 k1 k2
  exact ⟨b,off,xa,xc,rfl,k0,k1,k2,k3⟩
theorem qfd:Tryz.prog.underlying 25=some (.struct #[⟨"Tokens", 22,0,false, "", "", 0⟩,⟨"Start", 9,1,false, "", "", 24⟩,⟨"Expect", 3,2,false, "", "", 40⟩,⟨"Rules", 23,3,false, "", "", 48⟩]):=by kernel_rfl
theorem qnj {cs:Array Value} (h:cs.size=4):∃ a0 a1 a2 a3,cs=#[a0,a1,a2,a3]:=by
 match cs,h with
 | ⟨[a0,a1,a2,a3]⟩,_=>exact ⟨a0,a1,a2,a3,rfl⟩
theorem qo4 {H:Type} {enc:TypeId × Value->H} {W:World} {b0:Nat} {v:Value} {d:DataW H} {ps:List MemPlace} (hval:Value.okWide Tryz.prog W .any b0 25 v) (hd:DataW.Trod enc Tryz.prog W 0 (fun _=>true) true 25 v d ps):∃ h G,v=gv h G/\RawG W h G:=by
 obtain ⟨cs,rfl,hsz⟩:=okWide_struct qfd hval
 rw [c25] at hsz
 obtain ⟨fuel,hf⟩:=hd
 obtain ⟨xs,n,_,_,hl,hlen,hfs⟩:=DataW.trod_struct qfd hf
 obtain ⟨a0,a1,a2,a3,rfl⟩:=qnj hsz
 match xs,hlen with
 | [y0,y1,y2,y3],_ =>
  have g0:=hfs 0 _ rfl
  have g1:=hfs 1 _ rfl
  have g2:=hfs 2 _ rfl
  have g3:=hfs 3 _ rfl
  simp [Value.cells,c22,c9,c3',c23] at g0 g1 g2 g3
  obtain ⟨ta,tn,tc,ts,e0,htn,htl,htok⟩:=qo2 g0
  obtain ⟨s,hs,-⟩:=DataW.trod_string Tryz.underlying9 g1
  obtain ⟨e,he,-⟩:=DataW.trod_int Tryz.underlying3 g2
  obtain ⟨ra,rn,rc,rs,e3,hrn,hrl,hrul⟩:=qo3 g3
  simp only [List.cons.injEq,and_true] at e0 hs he e3
  subst e0 hs he e3 htn hrn
  exact ⟨⟨ta,tc,ra,rc⟩,⟨ts,s,e,rs⟩,rfl,htl,hrl,htok,hrul⟩
end Go.Proofs.YtngclmglmhiljaaGreatDoor
namespace Go.Proofs.YtngclmglmhiljaaGreatDoor
open Go.RowKit
def cutT (t:Tk):Tk:=⟨cutS t.n 15,t.l,t.a⟩
def cutR (r:Ru):Ru:=⟨cutS r.l 15,(r.r.take 22).map (fun x=>cutS x 15),cutS r.p 15⟩
def cutG (G:Gm):Gm:=⟨(G.ts.take 42).map cutT,cutS G.s 15,G.e,(G.rs.take 105).map cutR⟩
theorem qo5 (G:Gm):Small (cutG G):=by
 have h:=fun s:ByteArray=>qo1 s 15
 refine ⟨?_,?_,by have:=h G.s;simp only [cutG];omega,?_,?_⟩
 ·simp only [cutG,List.length_map,List.length_take];omega
 ·simp only [cutG,List.length_map,List.length_take];omega
 ·intro t ht
  simp only [cutG] at ht
  obtain ⟨u,-,rfl⟩:=List.mem_map.1 ht
  have:=h u.n
  simp only [cutT];omega
 ·intro r hr
  simp only [cutG] at hr
  obtain ⟨u,-,rfl⟩:=List.mem_map.1 hr
  refine ⟨by have:=h u.l;simp only [cutR];omega,by have:=h u.p;simp only [cutR];omega,by simp only [cutR,List.length_map,List.length_take];omega,?_⟩
  intro x hx
  simp only [cutR] at hx
  obtain ⟨y,-,rfl⟩:=List.mem_map.1 hx
  have:=h y
  omega
structure RC (w wr:World) (L P:ByteArray) (l:List ByteArray) (xa:Option Addr) (m xc:Nat):Prop where
 box:wr.heap[w.heap.size]?=some (.cells #[.string L,.slice xa m xc,.string P] 55 (0,0))
 own:OwnS wr (w.heap.size+1) (.slice xa m xc) l
 len:m=l.length
 bel:Below w.heap.size w wr
theorem RC.new (w:World) (L P:ByteArray):RC w (w.alloc (.cells #[.string L,.slice none 0 0,.string P] 55)) L P [] none 0 0 :=
 ⟨heap_alloc_new _ _,World.ownsRow_nil _ _ _ _,rfl,qb _ _⟩
theorem RC.step {w wr wr':World} {L P:ByteArray} {l:List ByteArray} {xa:Option Addr} {m xc:Nat} (h:RC w wr L P l xa m xc) (hb:Below wr.heap.size wr wr'):RC w wr' L P l xa m xc :=
 ⟨qf hb h.box,h.own.below hb,h.len,qd h.bel hb⟩
theorem RC.add {w wr:World} {L P:ByteArray} {l:List ByteArray} {xa:Option Addr} {m xc:Nat} (h:RC w wr L P l xa m xc) (hl:l.length<=1000) (s:ByteArray) :
  ∃ ao n c w',(Builtin.append_ #[28,28] 28 #[.slice xa m xc,.slice (some ⟨wr.heap.size,0,none⟩) 1 1]).run Tryz.prog (wr.alloc (.cells #[.string s] 9))=.ok (.slice ao n c) w'/\w'.heap[w.heap.size]?=some (.cells #[.string L,.slice xa m xc,.string P] 55 (0,0))/\RC w (w'.setCell ⟨w.heap.size,1,none⟩ (.slice ao n c)) L P (l++[s]) ao n c:=by
 have hlt:w.heap.size<wr.heap.size:=(Array.getElem?_eq_some_iff.1 h.box).1
 obtain ⟨ao,n,c,w',hr,hn,ho,hb⟩:=(h.own.below (qb wr (.cells #[.string s] 9))).addRow (vx wr [s] (by simp)) (by simp;omega) (by simp;omega) rfl
 have hbox:w'.heap[w.heap.size]?=some (.cells #[.string L,.slice xa m xc,.string P] 55 (0,0)):=by
  rw [hb.block _ (by omega),Below.heap_alloc _ _ _ hlt]
  exact h.box
 refine ⟨ao,n,c,w',hr,hbox,?_,?_,hn,?_⟩
 ·rw [setCell_eq_setRow w' w.heap.size 1 _ 55 (0,0) _ hbox]
  exact setRow_heap _ _ _ _ 55 _ hbox
 ·refine qh ho (fun i hi=>Below.heap_setCell _ _ _ _ (fun e=>?_))
  simp only at e
  have:=(World.ownsRow.lt ho i hi).1
  omega
 ·have h1:Below w.heap.size w w':=(qd h.bel (qb wr _)).trans (hb.mono (by omega))
  exact h1.setCell (p:=⟨w.heap.size,1,none⟩) (Nat.le_refl _) _
theorem qnk (G:Gm) (h:Hd) (w:World) (hG:RawG w h G):Calls Tryz.prog 11 #[gv h G] w fun e w'=>∃ h' qs,e=.returned (gv h' (cutG G))/\OwnG w' w.heap.size h' (cutG G) qs/\Below w.heap.size w w':=by
 obtain ⟨ts,st,ex,rs⟩:=G
 obtain ⟨ta,tc,ra,rc⟩:=h
 unfold gv
 simp only
 have HG:Hid (RawG w ⟨ta,tc,ra,rc⟩ ⟨ts,st,ex,rs⟩):=hG
 clear hG
 have HR:Hid (RawG ((w.alloc (.cells #[.slice ta ts.length tc,.string st,.int .i64 ex,.slice ra rs.length rc] 25)).alloc (.cells #[.slice none 0 0,.string ⟨#[]⟩,.int .i64 0,.slice none 0 0] 25)) ⟨ta,tc,ra,rc⟩ ⟨ts,st,ex,rs⟩):=HG.out.below (qd (qb _ _) (qb _ _))
 have HB:Hid (Below w.heap.size w ((w.alloc (.cells #[.slice ta ts.length tc,.string st,.int .i64 ex,.slice ra rs.length rc] 25)).alloc (.cells #[.slice none 0 0,.string ⟨#[]⟩,.int .i64 0,.slice none 0 0] 25))):=qd (qb _ _) (qb _ _)
 have hb0:((w.alloc (.cells #[.slice ta ts.length tc,.string st,.int .i64 ex,.slice ra rs.length rc] 25)).alloc (.cells #[.slice none 0 0,.string ⟨#[]⟩,.int .i64 0,.slice none 0 0] 25)).heap[w.heap.size]?=some (.cells #[.slice ta ts.length tc,.string st,.int .i64 ex,.slice ra rs.length rc] 25 (0,0)):=qf (qb _ _) (heap_alloc_new _ _)
 have hb1:((w.alloc (.cells #[.slice ta ts.length tc,.string st,.int .i64 ex,.slice ra rs.length rc] 25)).alloc (.cells #[.slice none 0 0,.string ⟨#[]⟩,.int .i64 0,.slice none 0 0] 25)).heap[w.heap.size+1]?=some (.cells #[.slice none 0 0,.string ⟨#[]⟩,.int .i64 0,.slice none 0 0] 25 (0,0)):=by
  have:=heap_alloc_new (w.alloc (.cells #[.slice ta ts.length tc,.string st,.int .i64 ex,.slice ra rs.length rc] 25)) (.cells #[.slice none 0 0,.string ⟨#[]⟩,.int .i64 0,.slice none 0 0] 25)
  rwa [qt] at this
 have hs2:((w.alloc (.cells #[.slice ta ts.length tc,.string st,.int .i64 ex,.slice ra rs.length rc] 25)).alloc (.cells #[.slice none 0 0,.string ⟨#[]⟩,.int .i64 0,.slice none 0 0] 25)).heap.size=w.heap.size+1+1:=by rw [qt,qt]
 have HL:Hid (ts.length<=tc/\tc<=9223372036854775807/\rs.length<=rc/\rc<=9223372036854775807):=⟨HG.out.tl.1,HG.out.tl.2,HG.out.rl.1,HG.out.rl.2⟩
 clear HG
 generalize etn:ts.length=tn at *
 generalize ern:rs.length=rn at *
 have HT:Hid (ts.length=tn/\rs.length=rn):=⟨etn,ern⟩
 clear etn ern
 go_enter Tryz.func11,Tryz.ntmps11
 go_upto_region 1 with fail
 generalize (w.alloc (.cells #[.slice ta tn tc,.string st,.int .i64 ex,.slice ra rn rc] 25)).alloc (.cells #[.slice none 0 0,.string ⟨#[]⟩,.int .i64 0,.slice none 0 0] 25)=W at HR HB hb0 hb1 hs2 ⊢
 obtain ⟨nb,hnb⟩:∃ nb,nb=w.heap.size:=⟨_,rfl⟩
 have HN:Hid (nb=w.heap.size/\W.heap.size=nb+1+1):=⟨hnb,by rw [hnb];exact hs2⟩
 rw [<-hnb] at hb0 hb1 ⊢
 clear hs2
 have HX:Hid (W.heap[nb]?=some (.cells #[.slice ta tn tc,.string st,.int .i64 ex,.slice ra rn rc] 25 (0,0))/\W.heap[nb+1]?=some (.cells #[.slice none 0 0,.string ⟨#[]⟩,.int .i64 0,.slice none 0 0] 25 (0,0))):=⟨hb0,hb1⟩
 have x1:W.cell? ⟨nb,1,none⟩=some (.string st):=by rw [qe hb0];rfl
 have x2:W.cell? ⟨nb,2,none⟩=some (.int .i64 ex):=by rw [qe hb0];rfl
 clear hb0 hb1 hnb
 obtain ⟨gb,hgb⟩:∃ gb,gb=W.heap.size:=⟨_,rfl⟩
 have HGB:Hid (gb=W.heap.size):=hgb
 go_cut [3] (fun s wd=>s=.pointer (some ⟨gb,0,none⟩)/\Hid (GB W wd gb ⟨none,0,none,0⟩ ⟨[],cutS st 15,ex,[]⟩ []))
 case first =>
  go_region_held (fun w'=>w'.cell? ⟨nb,1,none⟩=some (.string st)/\w'.cell? ⟨nb,2,none⟩=some (.int .i64 ex)) (go_keep) (first | (go_at_call 34;refine (qbe st 15 _).mono ?_;rintro e w' ⟨rfl,rfl⟩))
  all_goals
   go_wp2_with fail
   go_meet
   refine ⟨by rw [hgb],?_⟩
   rw [hgb]
   exact (qsi W W (cutS st 15) ex (Below.refl _ _)).step (qk _)
 case rest =>
  obtain ⟨rfl,J0⟩:=hcut
  obtain ⟨w3,hw3⟩:∃ w3,w3=wc:=⟨_,rfl⟩
  subst wc
  clear hgb x1 x2
  have hl1:=HL.out.1
  have hl2:=HL.out.2.1
  have hl3:=HL.out.2.2.1
  have hl4:=HL.out.2.2.2
  go_upto_block 0 with fail
  go_cut [4] (fun s4 wd=>Hid (∃ h,GB W wd gb h ⟨(ts.take 42).map cutT,cutS st 15,ex,[]⟩ []))
  case first =>
   go_wp2_with fail
   go_loopg [4] tn (fun kx s4 wr=>∃ i:Nat,s4=.int .i64 i/\i<=tn/\i<=42/\tn - i<=kx/\Hid (∃ h,GB W wr gb h ⟨(ts.take i).map cutT,cutS st 15,ex,[]⟩ []))
   case atStart=>exact ⟨0,rfl,Nat.zero_le _,Nat.zero_le _,by omega,(⟨_,J0.out⟩:∃ h,GB W w3 gb h ⟨(ts.take 0).map cutT,cutS st 15,ex,[]⟩ [])⟩
   case round =>
    obtain ⟨i,rfl,hi,hi42,hg,J⟩:=hrel
    clear J0
    obtain ⟨⟨a1,k1,a2,k2⟩,hG⟩:=J.out
    have x0:wr.cell? ⟨nb,0,none⟩=some (.slice ta tn tc):=qj hG.bel (by rw [qe HX.out.1];rfl)
    have eli:((ts.take i).map cutT).length=i:=by rw [List.length_map,List.length_take,HT.out.1];omega
    by_cases hlt:i<tn
    ·by_cases h42:i<42
     ·have hlt':(i:Int)<(tn:Int):=by omega
      have h42':(i:Int)<42:=by omega
      obtain ⟨t,ht⟩:∃ t,ts[i]?=some t:=⟨ts[i]'(by rw [HT.out.1];exact hlt),List.getElem?_eq_getElem _⟩
      obtain ⟨b,o,hta,c0,c1,c2⟩:=(HR.out.below hG.bel).tok i t ht
      simp only at hta
      subst hta
      obtain ⟨tn',tl,tA⟩:=t
      simp only at c0 c1 c2
      have hG1:=hG.step (qb wr (.cells #[.string (cutS tn' 15),.int .i64 tl,.int .i64 tA] 58))
      obtain ⟨e0,-,-,-,-⟩:=hG.cells
      simp only [eli] at e0
      have e0':=qo e0 (.cells #[.string (cutS tn' 15),.int .i64 tl,.int .i64 tA] 58)
      obtain ⟨ao,n,c,w5,hrun,hn,hbox,hG2⟩:=hG1.addTok (by simp only;rw [eli];omega) ⟨cutS tn' 15,tl,tA⟩
      simp only [eli,qt] at hrun
      have d0:w5.cell? ⟨gb,0,none⟩=some (.slice a1 i k1):=by rw [qe hbox];show some (Value.slice a1 ((ts.take i).map cutT).length k1)=_;rw [eli]
      have f0:w5.frozen? ⟨gb,0,none⟩=false:=qi hbox 0
      have HF:Hid (∃ h,GB W (w5.setCell ⟨gb,0,none⟩ (.slice ao n c)) gb h ⟨(ts.take (i+1)).map cutT,cutS st 15,ex,[]⟩ []):=by
       have e:(ts.take (i+1)).map cutT=(ts.take i).map cutT++[cutT ⟨tn',tl,tA⟩]:=by rw [zn ht,List.map_append];rfl
       rw [e]
       exact ⟨_,hG2⟩
      clear hG hG1 hG2 hbox J hn eli ht
      go_wp2_with fail
      refine (qbe tn' 15 _).mono ?_
      rintro e w' ⟨rfl,rfl⟩
      generalize cutS tn' 15=nm at *
      go_wp2_with (at_builtin;refine Lib.wpList_append_run _ rfl _ _ _ _ rfl _ _ rfl rfl _ _ hrun ?_)
      go_roundg (tn - (i+1))
      case measure=>omega
      case rel=>exact ⟨i+1,by simp,by omega,by omega,Nat.le_refl _,HF⟩
     ·have hlt':(i:Int)<(tn:Int):=by omega
      have h42':¬ (i:Int)<42:=by omega
      have HF:Hid (∃ h,GB W wr gb h ⟨(ts.take 42).map cutT,cutS st 15,ex,[]⟩ []):=by
       have:i=42:=by omega
       subst this
       exact J.out
      clear hG J eli
      go_wp2_with fail
      go_meet
      exact HF
    ·have hlt':¬ (i:Int)<(tn:Int):=by omega
     have HF:Hid (∃ h,GB W wr gb h ⟨(ts.take 42).map cutT,cutS st 15,ex,[]⟩ []):=by
      have e:ts.take 42=ts.take i:=by rw [List.take_of_length_le (by rw [HT.out.1];omega),List.take_of_length_le (by rw [HT.out.1];omega)]
      rw [e]
      exact J.out
     clear hG J eli
     go_wp2_with fail
     go_meet
     exact HF
  case rest =>
   obtain ⟨w4,hw4⟩:∃ w4,w4=wc:=⟨_,rfl⟩
   subst wc
   obtain ⟨h4,hG4⟩:=hcut.out
   have HG4:Hid (∃ h qs,GB W w4 gb h ⟨(ts.take 42).map cutT,cutS st 15,ex,[]⟩ qs):=⟨h4,[],hG4⟩
   clear hcut hG4 J0
   go_upto_block 2 with fail
   go_cut [6] (fun s6 wd=>Hid (∃ h qs,GB W wd gb h (cutG ⟨ts,st,ex,rs⟩) qs))
   case first =>
    go_wp2_with fail
    go_loopg [6] rn (fun kx s6 wr=>∃ i:Nat,s6=.int .i64 i/\i<=rn/\i<=105/\rn - i<=kx/\Hid (∃ h qs,GB W wr gb h ⟨(ts.take 42).map cutT,cutS st 15,ex,(rs.take i).map cutR⟩ qs))
    case atStart=>exact ⟨0,rfl,Nat.zero_le _,Nat.zero_le _,by omega,HG4⟩
    case round =>
     obtain ⟨i,rfl,hi,hi105,hg,J⟩:=hrel
     clear HG4
     obtain ⟨⟨a1,k1,a2,k2⟩,qs,hG⟩:=J.out
     have x3:wr.cell? ⟨nb,3,none⟩=some (.slice ra rn rc):=qj hG.bel (by rw [qe HX.out.1];rfl)
     by_cases hlt:i<rn
     ·by_cases h105:i<105
      ·have hlt':(i:Int)<(rn:Int):=by omega
       have h105':(i:Int)<105:=by omega
       obtain ⟨r,hr⟩:∃ r,rs[i]?=some r:=⟨rs[i]'(by rw [HT.out.2];exact hlt),List.getElem?_eq_getElem _⟩
       obtain ⟨b,o,xa,xc,hra,c0,c1,c2,hxs⟩:=(HR.out.below hG.bel).rul i r hr
       simp only at hra
       subst hra
       obtain ⟨rl,rr,rp⟩:=r
       simp only at c0 c1 c2 hxs
       obtain ⟨wo,hwo⟩:∃ wo,wo=wr:=⟨_,rfl⟩
       subst wr
       have HXS:Hid (RawS wo xa rr.length xc rr):=hxs
       have HRR:Hid (rs[i]?=some ⟨rl,rr,rp⟩):=hr
       have HGO:Hid (GB W wo gb ⟨a1,k1,a2,k2⟩ ⟨(ts.take 42).map cutT,cutS st 15,ex,(rs.take i).map cutR⟩ qs):=hG
       have HCC:Hid (wo.cell? ⟨nb,3,none⟩=some (.slice (some ⟨b,o,none⟩) rn rc)/\wo.cell? ⟨b,o+i * 3+1,none⟩=some (.slice xa rr.length xc)):=⟨x3,c1⟩
       have hxl:=hxs.le
       clear hxs hr hG J c1
       generalize exn:rr.length=xn at *
       have HXN:Hid (rr.length=xn):=exn
       clear exn
       go_upto_region 11 with fail
       go_cut [7] from 41 to 102 (fun s wd=>s=.pointer (some ⟨wo.heap.size,0,none⟩)/\Hid (RC wo wd (cutS rl 15) (cutS rp 15) [] none 0 0))
       case first =>
        go_region_held (fun w'=>w'.cell? ⟨nb,3,none⟩=some (.slice (some ⟨b,o,none⟩) rn rc)/\w'.cell? ⟨b,o+i * 3,none⟩=some (.string rl)/\w'.cell? ⟨b,o+i * 3+2,none⟩=some (.string rp)) (go_keep)
         (first | (go_at_call_of 34 (Value.string rl);refine (qbe rl 15 _).mono ?_;rintro e w' ⟨rfl,rfl⟩) | (go_at_call_of 34 (Value.string rp);refine (qbe rp 15 _).mono ?_;rintro e w' ⟨rfl,rfl⟩))
        all_goals
         go_wp2_with fail
         go_meet
         exact ⟨rfl,(RC.new wo (cutS rl 15) (cutS rp 15)).step (qk _)⟩
       case rest =>
        obtain ⟨rfl,R0⟩:=hcut
        obtain ⟨w5,hw5⟩:∃ w5,w5=wc:=⟨_,rfl⟩
        subst wc
        clear c0 c2 x3
        obtain ⟨rb,hrb⟩:∃ rb,rb=wo.heap.size:=⟨_,rfl⟩
        have HRB:Hid (rb=wo.heap.size):=hrb
        rw [<-hrb]
        clear hrb
        go_upto_block 4 with fail
        go_cut [8] from 41 to 102 (fun s8 wd=>Hid (∃ ya yc,RC wo wd (cutS rl 15) (cutS rp 15) ((rr.take 22).map (fun x=>cutS x 15)) ya (min xn 22) yc))
        case first =>
         go_wp2_with fail
         go_loopg [8] xn (fun kx s8 wr=>∃ k:Nat,s8=.int .i64 k/\k<=xn/\k<=22/\xn - k<=kx/\Hid (∃ ya yc,RC wo wr (cutS rl 15) (cutS rp 15) ((rr.take k).map (fun x=>cutS x 15)) ya k yc))
         case atStart=>exact ⟨0,rfl,Nat.zero_le _,Nat.zero_le _,by omega,(⟨_,_,R0.out⟩:∃ ya yc,RC wo w5 (cutS rl 15) (cutS rp 15) ((rr.take 0).map (fun x=>cutS x 15)) ya 0 yc)⟩
         case round =>
          obtain ⟨k,rfl,hk,hk22,hg2,K⟩:=hrel
          clear R0
          obtain ⟨ya,yc,hR⟩:=K.out
          have q3:=qj hR.bel HCC.out.1
          have q1:=qj hR.bel HCC.out.2
          by_cases hklt:k<xn
          ·by_cases h22:k<22
           ·have hklt':(k:Int)<(xn:Int):=by omega
            have h22':(k:Int)<22:=by omega
            obtain ⟨s,hs⟩:∃ s,rr[k]?=some s:=⟨rr[k]'(by rw [HXN.out];exact hklt),List.getElem?_eq_getElem _⟩
            obtain ⟨b2,o2,hxa,qs2⟩:=(HXS.out.below hR.bel).get k s hs
            subst hxa
            have p1:wr.cell? ⟨rb,1,none⟩=some (.slice ya k yc):=by rw [HRB.out,qe hR.box];rfl
            have elk:((rr.take k).map (fun x=>cutS x 15)).length=k:=by rw [List.length_map,List.length_take,HXN.out];omega
            obtain ⟨ao,n,c,w6,hrun,hbox,hR2⟩:=(hR.step (qk wr)).add (by rw [elk];omega) (cutS s 15)
            have hrun2:(Builtin.append_ #[28,28] 28 #[.slice ya k yc,.slice (some ⟨wr.heap.size,0,none⟩) 1 1]).run Tryz.prog (wr.alloc (.cells #[.string (cutS s 15)] 9)).drew=.ok (.slice ao n c) w6:=hrun
            have d1:w6.cell? ⟨rb,1,none⟩=some (.slice ya k yc):=by rw [HRB.out,qe hbox];rfl
            have f1:w6.frozen? ⟨rb,1,none⟩=false:=by rw [HRB.out];exact qi hbox 1
            have HF:Hid (∃ ya yc,RC wo (w6.setCell ⟨rb,1,none⟩ (.slice ao n c)) (cutS rl 15) (cutS rp 15) ((rr.take (k+1)).map (fun x=>cutS x 15)) ya (k+1) yc):=by
             have e:(rr.take (k+1)).map (fun x=>cutS x 15)=(rr.take k).map (fun x=>cutS x 15)++[cutS s 15]:=by rw [zn hs,List.map_append];rfl
             have hn:n=k+1:=by have:=hR2.len;rw [List.length_append,elk] at this;exact this
             subst hn
             rw [e,HRB.out]
             exact ⟨ao,c,hR2⟩
            clear hR hbox hR2 hrun K elk hs
            go_upto_block 5 with fail
            go_cut [95] from 67 to 96 (fun s95 wd=>Hid (∃ ya yc,RC wo wd (cutS rl 15) (cutS rp 15) ((rr.take (k+1)).map (fun x=>cutS x 15)) ya (k+1) yc))
            case first =>
             go_wp2_with fail
             have CC:Hid (∀ W:World,Calls Tryz.prog 34 #[.string s,.int .i64 15] W fun e w'=>e=.returned (.string (cutS s 15))/\w'=W):=fun W=>qbe s 15 W
             generalize cutS s 15=cs at hrun2 CC
             have p1':=qo p1 (.cells #[.string cs] 9)
             go_region_law (first | (refine zc rfl (.tmp 83) (.tmp 94) rfl rfl (by simp [Act.eval]) (by simp [Act.eval]) hrun2 ?_) | (refine qcz rfl 34 #[.string s,.int .i64 15] (.string cs) (by simp [Act.eval,go_sem]) (CC.out _) ?_))
             all_goals (go_wp2_with fail;go_meet;exact HF)
            case rest =>
             go_wp2_with fail
             go_roundg (xn - (k+1))
             case measure=>omega
             case rel=>exact ⟨k+1,by simp,by omega,by omega,Nat.le_refl _,hcut⟩
           ·have hklt':(k:Int)<(xn:Int):=by omega
            have h22':¬ (k:Int)<22:=by omega
            have HF:Hid (∃ ya yc,RC wo wr (cutS rl 15) (cutS rp 15) ((rr.take 22).map (fun x=>cutS x 15)) ya (min xn 22) yc):=by
             have:k=22:=by omega
             subst this
             have e:min xn 22=22:=by omega
             rw [e]
             exact K.out
            clear hR K
            go_wp2_with fail
            go_meet
            exact HF
          ·have hklt':¬ (k:Int)<(xn:Int):=by omega
           have HF:Hid (∃ ya yc,RC wo wr (cutS rl 15) (cutS rp 15) ((rr.take 22).map (fun x=>cutS x 15)) ya (min xn 22) yc):=by
            have e1:rr.take 22=rr.take k:=by rw [List.take_of_length_le (by rw [HXN.out];omega),List.take_of_length_le (by rw [HXN.out];omega)]
            have e:min xn 22=k:=by omega
            rw [e1,e]
            exact K.out
           clear hR K
           go_wp2_with fail
           go_meet
           exact HF
        case rest =>
         obtain ⟨w7,hw7⟩:∃ w7,w7=wc:=⟨_,rfl⟩
         subst wc
         obtain ⟨ya,yc,hR⟩:=hcut.out
         have hG7:=HGO.out.step hR.bel
         have eli:((rs.take i).map cutR).length=i:=by rw [List.length_map,List.length_take,HT.out.2];omega
         obtain ⟨-,-,-,y3,-⟩:=hG7.cells
         simp only [eli] at y3
         generalize emn:min xn 22=mn at *
         have p0:w7.cell? ⟨rb,0,none⟩=some (.string (cutS rl 15)):=by rw [HRB.out,qe hR.box];rfl
         have p1:w7.cell? ⟨rb,1,none⟩=some (.slice ya mn yc):=by rw [HRB.out,qe hR.box];rfl
         have p2:w7.cell? ⟨rb,2,none⟩=some (.string (cutS rp 15)):=by rw [HRB.out,qe hR.box];rfl
         have hown:OwnS w7 W.heap.size (.slice ya mn yc) (cutR ⟨rl,rr,rp⟩).r:=zd hR.own (by have:=HGO.out.bel.size;omega)
         obtain ⟨ao,n,c,w8,hrun,hn,hbox,hG8⟩:=hG7.addRule (by simp only;rw [eli];omega) (cutR ⟨rl,rr,rp⟩) ya yc mn hown hR.len
         simp only [eli] at hrun
         have hrun2:(Builtin.append_ #[23,23] 23 #[.slice a2 i k2,.slice (some ⟨w7.heap.size,0,none⟩) 1 1]).run Tryz.prog (w7.alloc (.cells #[.string (cutS rl 15),.slice ya mn yc,.string (cutS rp 15)] 55))=.ok (.slice ao n c) w8:=hrun
         have d3:w8.cell? ⟨gb,3,none⟩=some (.slice a2 i k2):=by rw [qe hbox];show some (Value.slice a2 ((rs.take i).map cutR).length k2)=_;rw [eli]
         have f3:w8.frozen? ⟨gb,3,none⟩=false:=qi hbox 3
         have HF:Hid (∃ h qs,GB W (w8.setCell ⟨gb,3,none⟩ (.slice ao n c)) gb h ⟨(ts.take 42).map cutT,cutS st 15,ex,(rs.take (i+1)).map cutR⟩ qs):=by
          have e:(rs.take (i+1)).map cutR=(rs.take i).map cutR++[cutR ⟨rl,rr,rp⟩]:=by rw [zn HRR.out,List.map_append];rfl
          rw [e]
          exact ⟨_,_,hG8⟩
         clear hG7 hG8 hbox hn hR hcut R0 hown hrun eli emn
         generalize cutS rl 15=cl at *
         generalize cutS rp 15=cp at *
         go_wp2_with (at_builtin;refine Lib.wpList_append_run _ rfl _ _ _ _ rfl _ _ rfl rfl _ _ hrun2 ?_)
         go_roundg (rn - (i+1))
         case measure=>omega
         case rel=>exact ⟨i+1,by simp,by omega,by omega,Nat.le_refl _,HF⟩
      ·have hlt':(i:Int)<(rn:Int):=by omega
       have h105':¬ (i:Int)<105:=by omega
       have HF:Hid (∃ h qs,GB W wr gb h (cutG ⟨ts,st,ex,rs⟩) qs):=by
        have:i=105:=by omega
        subst this
        exact J.out
       clear hG J
       go_wp2_with fail
       go_meet
       exact HF
     ·have hlt':¬ (i:Int)<(rn:Int):=by omega
      have HF:Hid (∃ h qs,GB W wr gb h (cutG ⟨ts,st,ex,rs⟩) qs):=by
       have e:rs.take 105=rs.take i:=by rw [List.take_of_length_le (by rw [HT.out.2];omega),List.take_of_length_le (by rw [HT.out.2];omega)]
       unfold cutG
       simp only
       rw [e]
       exact J.out
      clear hG J
      go_wp2_with fail
      go_meet
      exact HF
   case rest =>
    obtain ⟨w9,hw9⟩:∃ w9,w9=wc:=⟨_,rfl⟩
    subst wc
    obtain ⟨⟨a1,k1,a2,k2⟩,qs,hG⟩:=hcut.out
    obtain ⟨y0,y1,y2,y3,-⟩:=hG.cells
    have hb1:w9.heap[nb+1]?=some (.cells #[.slice none 0 0,.string ⟨#[]⟩,.int .i64 0,.slice none 0 0] 25 (0,0)):=qf hG.bel HX.out.2
    have z0:w9.cell? ⟨nb+1,0,none⟩=some (.slice none 0 0):=by rw [qe hb1];rfl
    have z1:w9.cell? ⟨nb+1,1,none⟩=some (.string ⟨#[]⟩):=by rw [qe hb1];rfl
    have z2:w9.cell? ⟨nb+1,2,none⟩=some (.int .i64 0):=by rw [qe hb1];rfl
    have z3:w9.cell? ⟨nb+1,3,none⟩=some (.slice none 0 0):=by rw [qe hb1];rfl
    have fz:∀ j,w9.frozen? ⟨nb+1,j,none⟩=false:=qi hb1
    have fz0:=fz 0
    have fz1:=fz 1
    have fz2:=fz 2
    have fz3:=fz 3
    clear fz
    have HF:Hid (OwnG ((((w9.setCell ⟨nb+1,0,none⟩ (.slice a1 (cutG ⟨ts,st,ex,rs⟩).ts.length k1)).setCell ⟨nb+1,1,none⟩ (.string (cutG ⟨ts,st,ex,rs⟩).s)).setCell ⟨nb+1,2,none⟩ (.int .i64 (cutG ⟨ts,st,ex,rs⟩).e)).setCell ⟨nb+1,3,none⟩ (.slice a2 (cutG ⟨ts,st,ex,rs⟩).rs.length k2)) w.heap.size ⟨a1,k1,a2,k2⟩ (cutG ⟨ts,st,ex,rs⟩) qs/\Below w.heap.size w ((((w9.setCell ⟨nb+1,0,none⟩ (.slice a1 (cutG ⟨ts,st,ex,rs⟩).ts.length k1)).setCell ⟨nb+1,1,none⟩ (.string (cutG ⟨ts,st,ex,rs⟩).s)).setCell ⟨nb+1,2,none⟩ (.int .i64 (cutG ⟨ts,st,ex,rs⟩).e)).setCell ⟨nb+1,3,none⟩ (.slice a2 (cutG ⟨ts,st,ex,rs⟩).rs.length k2))):=by
     have hlt:w.heap.size<=nb+1:=by rw [HN.out.1];omega
     have hW:nb+1<W.heap.size:=by have:=HN.out.2;omega
     have far:∀ {W':World} {u:Value} {j:Nat},OwnG W' W.heap.size ⟨a1,k1,a2,k2⟩ (cutG ⟨ts,st,ex,rs⟩) qs->OwnG (W'.setCell ⟨nb+1,j,none⟩ u) W.heap.size ⟨a1,k1,a2,k2⟩ (cutG ⟨ts,st,ex,rs⟩) qs:=by
      intro W' u j o
      refine ⟨?_,?_,o.map,fun q hq=>?_⟩
      ·exact qh o.tok (fun i hi=>Below.heap_setCell _ _ _ _ (fun e=>by simp only at e;have:=(World.ownsRow.lt o.tok i hi).1;omega))
      ·exact qh o.rul (fun i hi=>Below.heap_setCell _ _ _ _ (fun e=>by simp only at e;have:=(World.ownsRow.lt o.rul i hi).1;omega))
      ·exact qh (o.row q hq) (fun i hi=>Below.heap_setCell _ _ _ _ (fun e=>by simp only at e;have:=(World.ownsRow.lt (o.row q hq) i hi).1;omega))
     have o9:=far (u:=.slice a2 (cutG ⟨ts,st,ex,rs⟩).rs.length k2) (j:=3) (far (u:=.int .i64 (cutG ⟨ts,st,ex,rs⟩).e) (j:=2) (far (u:=.string (cutG ⟨ts,st,ex,rs⟩).s) (j:=1) (far (u:=.slice a1 (cutG ⟨ts,st,ex,rs⟩).ts.length k1) (j:=0) hG.own)))
     have hbe:w.heap.size<=W.heap.size:=HB.out.size
     refine ⟨⟨zd o9.tok hbe,zd o9.rul hbe,o9.map,fun q hq=>zd (o9.row q hq) hbe⟩,?_⟩
     exact ((((qd HB.out hG.bel).setCell (p:=⟨nb+1,0,none⟩) hlt _).setCell (p:=⟨nb+1,1,none⟩) hlt _).setCell (p:=⟨nb+1,2,none⟩) hlt _).setCell (p:=⟨nb+1,3,none⟩) hlt _
    clear hG hcut hb1 HG4
    generalize ectn:(cutG ⟨ts,st,ex,rs⟩).ts.length=ctn at y0 HF
    generalize ecrn:(cutG ⟨ts,st,ex,rs⟩).rs.length=crn at y3 HF
    generalize ecs:(cutG ⟨ts,st,ex,rs⟩).s=cst at y1 HF
    generalize ece:(cutG ⟨ts,st,ex,rs⟩).e=cex at y2 HF
    have HE:Hid ((cutG ⟨ts,st,ex,rs⟩).ts.length=ctn/\(cutG ⟨ts,st,ex,rs⟩).rs.length=crn/\(cutG ⟨ts,st,ex,rs⟩).s=cst/\(cutG ⟨ts,st,ex,rs⟩).e=cex):=⟨ectn,ecrn,ecs,ece⟩
    clear ectn ecrn ecs ece
    go_wp2_with fail
    refine bodyPost_ret (v:=.agg #[.slice a1 ctn k1,.string cst,.int .i64 cex,.slice a2 crn k2]) (by simp [results,Tryz.results11,go_sem, *]) rfl ?_
    obtain ⟨e1,e2,e3,e4⟩:=HE.out
    refine ⟨⟨a1,k1,a2,k2⟩,?_,⟨qs,HF.out.1⟩,HF.out.2⟩
    simp only [e1,e2,e3,e4]
theorem qsj (G:Gm):∃ k,OfR G k:=by
 unfold OfR
 rcases Classical.em (MayP G) with h1 | h1
 ·rcases Classical.em (kz G) with h2 | h2
  ·exact ⟨6,.inr (.inl ⟨rfl,h1,h2⟩)⟩
  ·rcases Classical.em (NmP G) with h3 | h3
   ·rcases Classical.em (yd (spG G)) with h4 | h4
    ·exact ⟨8,.inr (.inr (.inr (.inl ⟨rfl,h1,h2,h3,h4⟩)))⟩
    ·exact ⟨0,.inr (.inr (.inr (.inr ⟨rfl,h1,h2,h3,h4⟩)))⟩
   ·exact ⟨7,.inr (.inr (.inl ⟨rfl,h1,h2,h3⟩))⟩
 ·exact ⟨1,.inl ⟨rfl,h1⟩⟩
end Go.Proofs.YtngclmglmhiljaaGreatDoor
