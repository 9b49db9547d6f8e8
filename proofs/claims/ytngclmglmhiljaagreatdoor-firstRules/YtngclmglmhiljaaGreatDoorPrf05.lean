/- Texts that the proofs of the First statements stand on, part Prf05. -/
import Derived.Laws.OwnMore
import Derived.Test.YtngclmglmhiljaaGreatDoorPrf04
set_option maxHeartbeats 16000000
set_option maxRecDepth 100000
namespace Go.Proofs.YtngclmglmhiljaaGreatDoor
open Go.RowKit
def vi (r:Ru):List ByteArray:=[r.l,⟨#[58]⟩]++r.r++(if r.p=⟨#[]⟩ then [] else [⟨#[37,112,114,101,99]⟩,r.p])++[⟨#[59]⟩]
def Put (w:World) (b:Nat) (v:Value) (L M:List (List (List UInt8))) (w':World) (e:Ending):Prop:=∃v',e=.returned (.tuple #[])/\Bld w' b v' (tx (L++M))/\OkL (L++M)/\za w b v w' v'
theorem qiw(r:Ru)(i:Option Addr)(g b:Nat)(v:Value)(L:List (List (List UInt8)))(w:World)(C:Row w 1 i r.r.length g (strC r.r))(D:r.l.size<=100/\r.p.size<=100/\r.r.length<=100/\∀x∈r.r,x.size<=100)(hB:Bld w b v (tx L))(hL:OkL L)(u:L.length<=400):
  Calls Tryz.prog 148 #[.pointer (some ⟨b,0,none⟩),.agg #[.string r.l,.slice i r.r.length g,.string r.p]] w fun e w'=>Put w b v L [(vi r).map by8] w' e:=by
 obtain⟨c,d,a⟩:=r;simp only at C D ⊢;have K:=D.2.2.1
 have HS:Hid (c.size<=100/\a.size<=100/\∀x∈d,x.size<=100):=⟨D.1,D.2.1,D.2.2.2⟩
 have HB:Hid (Bld w b v (tx L)/\OkL L/\L.length<=400):=⟨hB,hL,u⟩
 obtain⟨n,hn⟩:∃n,d.length=n:=⟨_,rfl⟩
 have HN:Hid (d.length=n):=hn;rw[hn]at C K ⊢;have b1:=C.le
 have b2:g<=9223372036854775807:=by have:=C.max;unfold maxLen at this;omega
 have HR:Hid (Row w 1 i n g (strC d)):=C;clear D hB hL u hn C;go_enter Tryz.func148,Tryz.ntmps148
 go_upto_region 1 with fail
 have d0:(w.alloc (.cells #[.string c,.slice i n g,.string a] 55)).cell? ⟨w.heap.size,0,none⟩=some (.string c):=by rw[World.cell?_alloc_mark];rfl
 have d1:(w.alloc (.cells #[.string c,.slice i n g,.string a] 55)).cell? ⟨w.heap.size,1,none⟩=some (.slice i n g):=by rw[World.cell?_alloc_mark];rfl
 have d2:(w.alloc (.cells #[.string c,.slice i n g,.string a] 55)).cell? ⟨w.heap.size,2,none⟩=some (.string a):=by rw[World.cell?_alloc_mark];rfl
 have HW:Hid (Below w.heap.size w (w.alloc (.cells #[.string c,.slice i n g,.string a] 55))):=qb _ _;generalize w.alloc (.cells #[.string c,.slice i n g,.string a] 55)=w1 at d0 d1 d2 HW ⊢
 obtain⟨tb,a0⟩:∃tb,tb=w.heap.size:=⟨_,rfl⟩
 rw[<-a0]at d0 d1 d2 ⊢;clear a0;have G:=(qhh w1 [c,⟨#[58]⟩] (by simp)).addRow (HR.out.below (qd HW.out (qb w1 (.cells (strC [c,⟨#[58]⟩]).toArray 9)))) (by simp) (by rw[HN.out];simp;omega) HN.out.symm
 obtain⟨F,z,k2,w2,U,N,P,H⟩:=G;have m:(Builtin.append_ #[28,28] 28 #[.slice (some ⟨w1.heap.size,0,none⟩) 2 2,.slice i n g]).run Tryz.prog (w1.alloc (.cells #[.string c,.string ⟨#[58]⟩] 9))=.ok (.slice F z k2) w2:=U;have t:Below w1.heap.size w1 w2:=(qb w1 _).trans H
 have B:Hid (OwnS w2 w1.heap.size (.slice F z k2) ([c,⟨#[58]⟩]++d)/\z=([c,⟨#[58]⟩]++d).length/\Below w1.heap.size w1 w2):=⟨P,N,t⟩
 have a1:=qo d1;have e2:=qj t d2;clear U N P H t
 go_upto_region 2 with (at_builtin;refine Lib.wpList_append_run _ rfl _ _ _ _ rfl _ _ rfl rfl _ _ m ?_)
 clear m d0 d1 d2 a1
 obtain⟨pe,T⟩:∃pe:Bool,(a.toList == [])=pe:=⟨_,rfl⟩
 go_upto_if 13 with fail
 have E:Hid (pe=true↔a=⟨#[]⟩):=by show _↔_;rw[<-T];exact zo a
 clear T
 go_cut [4] (fun s4 wd=>∃y:Option Addr × Nat × Nat,s4=.slice y.1 y.2.1 y.2.2/\Hid (∃l:List ByteArray,l=[c,⟨#[58]⟩]++d++(if a=⟨#[]⟩ then [] else [⟨#[37,112,114,101,99]⟩,a])/\y.2.1=l.length/\OwnS wd w1.heap.size (.slice y.1 y.2.1 y.2.2) l/\Below w1.heap.size w1 wd))
 case first =>
  by_cases k:a=⟨#[]⟩
  ·have j:pe=true:=E.out.2 k;subst j
   have o:Hid (∃l:List ByteArray,l=[c,⟨#[58]⟩]++d++(if a=⟨#[]⟩ then [] else [⟨#[37,112,114,101,99]⟩,a])/\z=l.length/\OwnS w2 w1.heap.size (.slice F z k2) l/\Below w1.heap.size w1 w2):=⟨_,rfl,by rw[if_pos k,List.append_nil];exact B.out.2.1,by rw[if_pos k,List.append_nil];exact B.out.1,B.out.2.2⟩
   clear k;go_wp2_with fail;go_meet;exact⟨(F,z,k2),rfl,o⟩
  ·have j:pe=false:=zb E.out k;subst j;have G:=(B.out.1.below (qb w2 (.cells (strC [⟨#[37,112,114,101,99]⟩,a]).toArray 9))).addRow (vx w2 [⟨#[37,112,114,101,99]⟩,a] (by simp)) (by have:=B.out.2.2.size;simp;omega) (by rw[List.length_append,HN.out];simp;omega) rfl
   obtain⟨a3,n3,k3,w3,V,O,Q,I⟩:=G;have X:(Builtin.append_ #[28,28] 28 #[.slice F z k2,.slice (some ⟨w2.heap.size,0,none⟩) 2 2]).run Tryz.prog (w2.alloc (.cells #[.string ⟨#[37,112,114,101,99]⟩,.string a] 9))=.ok (.slice a3 n3 k3) w3:=V
   have o:Hid (∃l:List ByteArray,l=[c,⟨#[58]⟩]++d++(if a=⟨#[]⟩ then [] else [⟨#[37,112,114,101,99]⟩,a])/\n3=l.length/\OwnS w3 w1.heap.size (.slice a3 n3 k3) l/\Below w1.heap.size w1 w3):=⟨_,rfl,by rw[if_neg k];exact O,by rw[if_neg k];exact Q,(qd B.out.2.2 (qb w2 _)).trans I⟩
   clear k V O Q I;go_wp2_with(at_builtin;refine Lib.wpList_append_run _ rfl _ _ _ _ rfl _ _ rfl rfl _ _ X ?_)
   go_meet;exact⟨(a3,n3,k3),rfl,o⟩
 case rest =>
  obtain⟨⟨a4,n4,k4⟩,rfl,o⟩:=hcut;simp only at o;obtain⟨l,u,a9,R,q⟩:=o.out
  have a8:l.length<=104:=by
   rw[u,List.length_append,List.length_append,HN.out];simp only[List.length_cons,List.length_nil]
   split <;> simp <;> omega
  have M:∀x∈l++[⟨#[59]⟩],x.size<=100:=by
   intro x h;rw[u]at h;simp only[List.mem_append,List.mem_cons,List.not_mem_nil,or_false]at h
   have a6:(⟨#[58]⟩:ByteArray).size<=100:=by decide
   have a7:(⟨#[59]⟩:ByteArray).size<=100:=by decide
   have b0:(⟨#[37,112,114,101,99]⟩:ByteArray).size<=100:=by decide
   rcases h with ((( rfl | rfl) | h) | h) | rfl
   ·exact HS.out.1
   ·exact a6
   ·exact HS.out.2.2 x h
   ·split at h
    ·cases h
    ·simp only[List.mem_cons,List.not_mem_nil,or_false]at h
     rcases h with rfl | rfl
     ·exact b0
     ·exact HS.out.2.1
   ·exact a7
  have G:=(R.below (qb wc (.cells (strC [⟨#[59]⟩]).toArray 9))).addRow (vx wc [⟨#[59]⟩] (by simp)) (by have:=q.size;simp;omega) (by simp;omega) rfl
  obtain⟨a5,n5,k5,A,Y,f,S,J⟩:=G;have Z:(Builtin.append_ #[28,28] 28 #[.slice a4 n4 k4,.slice (some ⟨wc.heap.size,0,none⟩) 1 1]).run Tryz.prog (wc.alloc (.cells #[.string ⟨#[59]⟩] 9))=.ok (.slice a5 n5 k5) A:=Y
  have s:Below w.heap.size w A:=by
   have j:Below w1.heap.size w1 A:=(qd q (qb wc _)).trans J;exact qd HW.out j
  have HC:Hid (Calls Tryz.prog 146 #[.pointer (some ⟨b,0,none⟩),.slice a5 n5 k5] A fun e w'=>∃v',e=.returned (.tuple #[])/\Bld w' b v' (tx (L++[(vi ⟨c,d,a⟩).map by8]))/\OkL (L++[(vi ⟨c,d,a⟩).map by8])/\za A b v w' v'):=by
   have e:vi ⟨c,d,a⟩=l++[⟨#[59]⟩]:=by rw[u];rfl
   rw[e];exact qch (l++[⟨#[59]⟩]) a5 n5 k5 b v L A (S.row f) f (by rw[f,List.length_append];simp) (by rw[f,List.length_append];simp;omega) M (HB.out.1.below s) HB.out.2.1 HB.out.2.2
  have HM:Hid (za w b v A v):=za.of_below s;clear Y f S J s M a8 u a9 R q o;go_wp2_with(first | (at_builtin;refine Lib.wpList_append_run _ rfl _ _ _ _ rfl _ _ rfl rfl _ _ Z ?_))
  refine HC.out.mono ?_;rintro e w6 ⟨v6,rfl,j,h2,h3⟩
  have HE:Hid (Bld w6 b v6 (tx (L++[(vi ⟨c,d,a⟩).map by8]))/\OkL (L++[(vi ⟨c,d,a⟩).map by8])/\za w b v w6 v6):=⟨j,h2,HM.out.trans h3⟩
  clear j h2 h3 HC;go_wp2_with fail;go_end0;exact⟨v6,rfl,HE.out⟩
theorem rowF{w i:World}{b:Nat}{v v':Value}{k:Nat}{d:Option Addr}{n c:Nat}{cs:List Value}(h:Row w k d n c cs)(q:za w b v i v')(m:∀a,d=some a->¬Foot b v a.block):Row i k d n c cs:=by
 refine⟨h.len,h.le,h.max,h.lies.imp id ?_⟩;rintro⟨g,o,rfl,l⟩;refine⟨g,o,rfl,fun j u r=>?_⟩;have f:=l j u r;have p:=World.block_lt_of_cell? w _ f;rw[<-f]
 unfold World.cell?
 rw[q.1.block _ p (m ⟨g,o,none⟩ rfl)]
def qgg (ts:List Tk) (l:List Int) (k:Nat):List (List (List UInt8)):=if (l[k]?).getD 0=0 then [] else [(keyA ((l[k]?).getD 0) :: zy ts k).map by8]
def zu (ts:List Tk) (l:List Int) (k:Nat):List (List (List UInt8)):=(List.range k).flatMap fun i=>qgg ts l (i+1)
def zq (ts:List Tk):List (List (List UInt8)):=if ts=[] then [] else [((⟨#[37,116,111,107,101,110]⟩:ByteArray) :: ts.map (·.n)).map by8]
theorem qgh(ts:List Tk)(l:List Int)(k:Nat):zu ts l (k+1)=zu ts l k++qgg ts l (k+1):=by
 unfold zu;rw[List.range_succ,List.flatMap_append];simp
theorem qec(ts:List Tk)(l:List Int)(k:Nat):(zu ts l k).length<=k:=by
 induction k with
 | zero=>simp[zu]
 | succ k ih =>
  rw[qgh,List.length_append];unfold qgg
  split <;> simp <;> omega
def LvB (ts:List Tk) (l:List Int) (L:List (List (List UInt8))) (w:World) (b:Nat) (v:Value) (wr:World) (lb k:Nat):Prop :=
 ∃v',Bld wr b v' (tx (L++zq ts++zu ts l (k - 1)))/\OkL (L++zq ts++zu ts l (k - 1))/\za w b v wr v'/\wr.heap[lb]?=some (.cells (ar9 l) 129 (0,0))/\¬Foot b v' lb
theorem qgi(ts:List Tk)(l:List Int)(p:Option Addr)(n c b:Nat)(v:Value)(L:List (List (List UInt8)))(w:World)(hr:Row w 3 p n c (tokC ts))(hn:n=ts.length)(c6:n<=100)(hs:∀t∈ts,t.n.size<=100)(b3:levF ts=some l)(b6:qaf l)(b2:0<n->∀a,p=some a->¬Foot b v a.block)(hB:Bld w b v (tx L))(hL:OkL L)(hl:L.length<=300):
  Calls Tryz.prog 145 #[.pointer (some ⟨b,0,none⟩),.slice p n c] w fun e u=>Put w b v L (zq ts++zu ts l 8) u e:=by
 have F:Hid (n=ts.length):=hn;have HR:Hid (Row w 3 p n c (tokC ts)):=hr;have HS:Hid (∀t∈ts,t.n.size<=100):=hs
 have T:Hid (Bld w b v (tx L)/\OkL L/\L.length<=300):=⟨hB,hL,hl⟩
 have C:Hid (levF ts=some l/\qaf l):=⟨b3,b6⟩
 have U:Hid (0<n->∀a,p=some a->¬Foot b v a.block):=b2;have d2:=hr.le
 have d4:c<=9223372036854775807:=by have:=hr.max;unfold maxLen at this;omega
 clear hr hn hs hB hL hl b3 b6 b2
 by_cases h0:n=0
 ·have e0:((n:Int) == 0)=true:=by simpa using h0
  have d:Hid (zq ts++zu ts l 8=[]):=by
   have e:ts=[]:=List.eq_nil_of_length_eq_zero (by rw[<-F.out];exact h0)
   subst e
   have e2:l=jl:=by have:=C.out.1;cases this;rfl
   subst e2;rfl
  have HE:Hid (Bld w b v (tx L)/\OkL L):=⟨T.out.1,T.out.2.1⟩
  clear T C h0;go_enter Tryz.func145,Tryz.ntmps145;go_wp2_with fail;refine bodyPost_ret (results_none rfl _ _ _) rfl ?_;exact⟨v,rfl,by rw[d.out,List.append_nil];exact HE.out.1,by rw[d.out,List.append_nil];exact HE.out.2,za.refl _ _ _⟩
 ·have e0:((n:Int) == 0)=false:=by simpa using h0
  have a7:Hid (∀a,p=some a->¬Foot b v a.block):=U.out (by omega);clear U
  have Y:Hid (zq ts=[((⟨#[37,116,111,107,101,110]⟩:ByteArray) :: ts.map (·.n)).map by8]):=by
   show _=_;unfold zq;rw[if_neg (fun e=>h0 (by rw[F.out,e];rfl))]
  have HO:Hid (OwnS (w.alloc (.cells #[.string ⟨#[37,116,111,107,101,110]⟩] 9)) w.heap.size (.slice (some ⟨w.heap.size,0,none⟩) 1 1) [⟨#[37,116,111,107,101,110]⟩]/\Below w.heap.size w (w.alloc (.cells #[.string ⟨#[37,116,111,107,101,110]⟩] 9))):=⟨qhh w [⟨#[37,116,111,107,101,110]⟩] (by simp),qb _ _⟩
  obtain⟨g,O⟩:∃g:ByteArray,g=⟨#[37,116,111,107,101,110]⟩:=⟨_,rfl⟩
  have b9:Hid (g.size<=100):=by show _<=_;rw[O];decide
  rw[<-O]at Y;go_enter Tryz.func145,Tryz.ntmps145
  go_upto_region 2 with fail
  rw[<-O]at HO ⊢;clear O;generalize c8:w.alloc (.cells #[.string g] 9)=w1 at HO ⊢;clear c8
  go_upto_block 0 with fail
  go_cut [4] (fun s4 wd=>∃h:Option Addr × Nat × Nat,s4=.slice h.1 h.2.1 h.2.2/\Hid (h.2.1=(g :: ts.map (·.n)).length/\Row wd 1 h.1 h.2.1 h.2.2 (strC (g :: ts.map (·.n)))/\Below w.heap.size w wd))
  case first =>
   go_wp2_with fail
   go_loopg [4,16] n (fun kx s4 s16 wr=>∃(i:Nat) (h:Option Addr × Nat × Nat),s4=.slice h.1 h.2.1 h.2.2/\s16=.int .i64 i/\i<=n/\n - i<=kx/\Hid (∃q:List ByteArray,q=g :: (ts.take i).map (·.n)/\h.2.1=q.length/\OwnS wr w.heap.size (.slice h.1 h.2.1 h.2.2) q/\Below w.heap.size w wr))
   case atStart=>exact⟨0,(some ⟨w.heap.size,0,none⟩,1,1),rfl,rfl,Nat.zero_le _,by omega,(⟨[g],rfl,rfl,HO.out.1,HO.out.2⟩:∃q:List ByteArray,q=g :: (ts.take 0).map (·.n)/\1=q.length/\OwnS w1 w.heap.size (.slice (some ⟨w.heap.size,0,none⟩) 1 1) q/\Below w.heap.size w w1)⟩
   case round =>
    obtain⟨i,⟨la,ln,lc⟩,rfl,rfl,hi,hg,J⟩:=hrel;simp only at J;obtain⟨q,hq,E,s,f⟩:=J.out
    have d3:q.length<=101:=by
     rw[hq,List.length_cons,List.length_map,List.length_take,<-F.out];omega
    clear J HO
    by_cases a3:i<n
    ·obtain⟨t,ht⟩:∃t,ts[i]?=some t:=⟨ts[i]'(by rw[<-F.out];exact a3),List.getElem?_eq_getElem _⟩
     obtain⟨d5,o,rfl,c0,c1,c2⟩:=ja (HR.out.below f) ht
     have HT:Hid (g :: (ts.take (i+1)).map (·.n)=q++[t.n]):=by show _=_;rw[zn ht,List.map_append,hq];rfl
     have y:Hid (ln=q.length):=E;obtain⟨R,tl,ta⟩:=t;simp only at c0 c1 c2 HT;clear ht;clear hq E
     go_upto_region 5 with fail
     have G:Hid (OwnS (wr.alloc (.cells #[.string R,.int .i64 tl,.int .i64 ta] 58)) w.heap.size (.slice la ln lc) q/\Below w.heap.size w (wr.alloc (.cells #[.string R,.int .i64 tl,.int .i64 ta] 58))):=⟨s.below (qb _ _),qd f (qb _ _)⟩
     have d0:(wr.alloc (.cells #[.string R,.int .i64 tl,.int .i64 ta] 58)).cell? ⟨wr.heap.size,0,none⟩=some (.string R):=by rw[World.cell?_alloc_mark];rfl
     generalize wr.alloc (.cells #[.string R,.int .i64 tl,.int .i64 ta] 58)=wq at G d0 ⊢;generalize wr.heap.size=tb at d0 ⊢;clear c0 c1 c2 s f;have hA:=(G.out.1.below (qb wq (.cells #[.string R] 9))).addRow (vx wq [R] (by simp)) (by have:=G.out.2.size;simp;omega) (by simp;omega) rfl
     obtain⟨a2,n2,c2,w2,hr,b5,b7,b1⟩:=hA;have c7:(Builtin.append_ #[28,28] 28 #[.slice la ln lc,.slice (some ⟨wq.heap.size,0,none⟩) 1 1]).run Tryz.prog (wq.alloc (.cells #[.string R] 9))=.ok (.slice a2 n2 c2) w2:=hr
     have d:Hid (∃q:List ByteArray,q=g :: (ts.take (i+1)).map (·.n)/\n2=q.length/\OwnS w2 w.heap.size (.slice a2 n2 c2) q/\Below w.heap.size w w2) :=
      ⟨q++[R],HT.out.symm,b5,b7,(qd G.out.2 (qb _ _)).trans b1⟩
     clear hr b5 b7 b1 HT;go_wp2_with(at_builtin;refine Lib.wpList_append_run _ rfl _ _ _ _ rfl _ _ rfl rfl _ _ c7 ?_)
     go_roundg (n - (i+1))
     case measure=>omega
     case rel=>exact⟨i+1,(a2,n2,c2),rfl,by simp,by omega,Nat.le_refl _,d⟩
    ·obtain rfl:i=n:=by omega
     have d:Hid (ln=(g :: ts.map (·.n)).length/\Row wr 1 la ln lc (strC (g :: ts.map (·.n)))/\Below w.heap.size w wr):=by
      have e:q=g :: ts.map (·.n):=by rw[hq,F.out,List.take_length]
      rw[<-e];exact⟨E,s.row E,f⟩
     clear hq E s f;go_wp2_with fail;go_meet;exact⟨(la,ln,lc),rfl,d⟩
  case rest =>
   obtain⟨⟨a4,n4,k4⟩,rfl,d⟩:=hcut;simp only at d
   have HC:Hid (Calls Tryz.prog 146 #[.pointer (some ⟨b,0,none⟩),.slice a4 n4 k4] wc fun e u=>∃v',e=.returned (.tuple #[])/\Bld u b v' (tx (L++zq ts))/\OkL (L++zq ts)/\za wc b v u v'):=by
    rw[Y.out]
    exact qch (g :: ts.map (·.n)) a4 n4 k4 b v L wc d.out.2.1 d.out.1 (by rw[d.out.1];simp) (by rw[d.out.1,List.length_cons,List.length_map,<-F.out];omega) (fun x hx=>by
     rw[List.mem_cons,List.mem_map]at hx
     rcases hx with rfl | ⟨t,ht,rfl⟩
     ·exact b9.out
     ·exact HS.out t ht) (T.out.1.below d.out.2.2) T.out.2.1 (by have:=T.out.2.2;omega)
   have c4:Hid ((L++zq ts).length<=301):=by show _<=_;rw[Y.out,List.length_append];have:=T.out.2.2;simp;omega
   have a9:Hid (za w b v wc v):=za.of_below d.out.2.2;clear d HO T;go_wp2_with fail;refine HC.out.mono ?_;rintro e w5 ⟨v5,rfl,M,h2,Z⟩
   have H5:Hid (Bld w5 b v5 (tx (L++zq ts))/\OkL (L++zq ts)/\za w b v w5 v5):=⟨M,h2,a9.out.trans Z⟩
   clear M h2 Z HC a9
   have c5:Hid (∀W:World,Below w.heap.size w W->Calls Tryz.prog 104 #[.slice p n c] W fun e u=>∃(l:List Int) (r:Int),e=.returned (.tuple #[.agg (ar9 l),.bool (decide (r=1))])/\qf8 ts l (decide (r=1))/\Below W.heap.size W u):=fun W hW=>qar ts p n c W (HR.out.below hW) F.out (by omega)
   have a6:Hid (Row w5 3 p n c (tokC ts)):=rowF HR.out H5.out.2.2 a7.out;have a8:Hid (Calls Tryz.prog 104 #[.slice p n c] w5 fun e u=>∃(l:List Int) (r:Int),e=.returned (.tuple #[.agg (ar9 l),.bool (decide (r=1))])/\qf8 ts l (decide (r=1))/\Below w5.heap.size w5 u):=qar ts p n c w5 a6.out F.out (by omega);clear c5;go_wp2_with fail;refine a8.out.mono ?_;rintro e S ⟨l',ri,rfl,P,a0⟩;have a5:decide (ri=1)=true:=P.2.1.2 ⟨l,C.out.1,C.out.2⟩
   have b4:l'=l:=by have:=P.2.2 a5;rw[C.out.1]at this;cases this;rfl
   subst b4;have a1:=P.1;obtain⟨xa,xb,xc,xd,xe,xf,xg,xi,xj,b8⟩:=nine a1
   have hA:ar9 l'=#[.int .i64 xa,.int .i64 xb,.int .i64 xc,.int .i64 xd,.int .i64 xe,.int .i64 xf,.int .i64 xg,.int .i64 xi,.int .i64 xj]:=by rw[b8];rfl
   have D:Hid (Bld S b v5 (tx (L++zq ts))/\OkL (L++zq ts)/\za w b v S v5):=⟨H5.out.1.below a0,H5.out.2.1,H5.out.2.2.trans (za.of_below a0)⟩
   have H:Hid (Bld (S.alloc (.cells (ar9 l') 129)) b v5 (tx (L++zq ts++zu ts l' 0))/\OkL (L++zq ts++zu ts l' 0)/\za w b v (S.alloc (.cells (ar9 l') 129)) v5/\(S.alloc (.cells (ar9 l') 129)).heap[S.heap.size]?=some (.cells (ar9 l') 129 (0,0))/\¬Foot b v5 S.heap.size):=by
    have e:L++zq ts++zu ts l' 0=L++zq ts:=by simp[zu]
    rw[e];exact⟨D.out.1.below (qb _ _),D.out.2.1,D.out.2.2.trans (za.of_below (qb _ _)),heap_alloc_new _ _,fun hf=>by have:=D.out.1.lt _ hf;omega⟩
   rw[a5];clear P a0 a8 H5 a6 a5;rw[hA]
   go_upto_region 9 with fail
   rw[<-hA];clear b8 hA D;generalize S.alloc (.cells (ar9 l') 129)=w7 at H ⊢;generalize S.heap.size=lb at H ⊢;have c3:Hid (l'.length=9):=a1;clear a1
   have j:Hid (LvB ts l' L w b v w7 lb 1):=⟨v5,H.out⟩
   clear H;go_wp2_with fail
   go_loopg [9] 9 (fun kx s9 wr=>∃k:Nat,s9=.int .i64 k/\1<=k/\k<=9/\9 - k<=kx/\Hid (LvB ts l' L w b v wr lb k))
   case atStart=>exact⟨1,rfl,Nat.le_refl _,by omega,by omega,j⟩
   case round =>
    obtain⟨k,rfl,c9,d1,hg,J⟩:=hrel;clear j
    by_cases a3:k<9
    ·obtain⟨B,jB,jO,jM,jH,jF⟩:=J.out
     have hx:wr.cell? ⟨lb,k,none⟩=some (.int .i64 ((l'[k]?).getD 0)):=by rw[qe jH];exact qf7 c3.out a3
     have I:Hid (zu ts l' k=zu ts l' (k - 1)++qgg ts l' k):=by
      obtain⟨q,rfl⟩:∃q,k=q+1:=⟨k - 1,by omega⟩
      exact qgh ts l' q
     have V:Hid (Bld wr b B (tx (L++zq ts++zu ts l' (k - 1)))/\OkL (L++zq ts++zu ts l' (k - 1))/\za w b v wr B/\wr.heap[lb]?=some (.cells (ar9 l') 129 (0,0))/\¬Foot b B lb):=⟨jB,jO,jM,jH,jF⟩
     have b0:Hid (Row wr 3 p n c (tokC ts)):=rowF HR.out jM a7.out;have y:Hid (qgg ts l' k=if (l'[k]?).getD 0=0 then [] else [(keyA ((l'[k]?).getD 0) :: zy ts k).map by8]):=rfl;clear jB jO jM jH jF J;generalize (l'[k]?).getD 0=x at hx y
     by_cases A:x=0
     ·have e1:(x != 0)=false:=by simpa using A
      have d:Hid (LvB ts l' L w b v wr lb (k+1)):=by
       refine⟨B,?_⟩
       have e:zu ts l' (k+1 - 1)=zu ts l' (k - 1):=by rw[Nat.add_sub_cancel,I.out,y.out,if_pos A,List.append_nil]
       rw[e];exact V.out
      clear V I y A;go_wp2_with fail;go_roundg (9 - (k+1))
      case measure=>omega
      case rel=>exact⟨k+1,by simp,by omega,by omega,Nat.le_refl _,d⟩
     ·have e1:(x != 0)=true:=by simpa using A
      have HC:Hid (Calls Tryz.prog 161 #[.slice p n c,.int .i64 k,.int .i64 x] wr fun e u=>∃xa m xc,e=.returned (.slice xa m xc)/\m=(keyA x :: zy ts k).length/\Row u 1 xa m xc (strC (keyA x :: zy ts k))/\Below wr.heap.size wr u):=qgf ts p n c k x wr b0.out F.out c6;go_wp2_with fail;refine HC.out.mono ?_;rintro e w8 ⟨ya,ym,yc,rfl,Q,X,N⟩
      have HP:Hid (Calls Tryz.prog 146 #[.pointer (some ⟨b,0,none⟩),.slice ya ym yc] w8 fun e u=>∃v',e=.returned (.tuple #[])/\Bld u b v' (tx (L++zq ts++zu ts l' k))/\OkL (L++zq ts++zu ts l' k)/\za w8 b B u v'):=by
       have e:L++zq ts++zu ts l' k=(L++zq ts++zu ts l' (k - 1))++[(keyA x :: zy ts k).map by8]:=by rw[I.out,y.out,if_neg A,<-List.append_assoc]
       rw[e];refine qch (keyA x :: zy ts k) ya ym yc b B _ w8 X Q (by rw[Q];simp) (by rw[Q,List.length_cons];have:=qcx ts (k:Int);rw[<-F.out]at this;omega) (fun z hz=>?_) (V.out.1.below N) V.out.2.1 (by have M:=qec ts l' (k - 1);have h2:=c4.out;rw[List.length_append];omega)
       rw[List.mem_cons]at hz
       rcases hz with rfl | hz
       ·exact qn0 x
       ·unfold zy at hz;rw[List.mem_map]at hz;obtain⟨t,ht,rfl⟩:=hz;exact HS.out t (List.mem_filter.1 ht).1
      have G:Hid (za w b v w8 B/\w8.heap[lb]?=some (.cells (ar9 l') 129 (0,0))/\lb<w8.heap.size):=by
       have M:=qf N V.out.2.2.2.1;exact⟨V.out.2.2.1.trans (za.of_below N),M,(Array.getElem?_eq_some_iff.1 M).1⟩
      have K:Hid (¬Foot b B lb):=V.out.2.2.2.2;clear Q X N HC V I y b0 A;go_wp2_with fail;refine HP.out.mono ?_;rintro e w9 ⟨v9,rfl,M,h2,Z⟩
      have d:Hid (LvB ts l' L w b v w9 lb (k+1)):=by
       refine⟨v9,by rw[Nat.add_sub_cancel];exact M,by rw[Nat.add_sub_cancel];exact h2,G.out.1.trans Z,?_,?_⟩
       ·rw[Z.1.block lb G.out.2.2 K.out];exact G.out.2.1
       ·rintro(rfl | hk)
        ·exact K.out (.inl rfl)
        ·rcases Z.2 lb hk with h4 | h4
         ·exact K.out (.inr h4)
         ·have:=G.out.2.2;omega
      clear M h2 Z HP G K;go_wp2_with fail;go_roundg (9 - (k+1))
      case measure=>omega
      case rel=>exact⟨k+1,by simp,by omega,by omega,Nat.le_refl _,d⟩
    ·obtain rfl:k=9:=by omega
     obtain⟨B,jB,jO,jM,-,-⟩:=J.out
     have d:Hid (Bld wr b B (tx (L++(zq ts++zu ts l' 8)))/\OkL (L++(zq ts++zu ts l' 8))/\za w b v wr B):=by
      rw[<-List.append_assoc];exact⟨jB,jO,jM⟩
     clear jB jO jM J;go_wp2_with fail;go_end0;exact⟨B,rfl,d.out⟩
def km (s:ByteArray):List (List (List UInt8)):=if s=⟨#[]⟩ then [] else [([⟨#[37,115,116,97,114,116]⟩,s]:List ByteArray).map by8]
def vy (e:Int):List (List (List UInt8)):=if e=0 then [] else [[by8 ⟨#[37,101,120,112,101,99,116]⟩,dg 6 e.toNat []]]
def vq (G:Gm) (l:List Int):List (List (List UInt8)):=zq G.ts++zu G.ts l 8++km G.s++vy G.e++[[by8 ⟨#[37,37]⟩]]
def vr (G:Gm) (l:List Int):List (List (List UInt8)):=vq G l++G.rs.map fun r=>(vi r).map by8
def qmz (G:Gm) (t:ByteArray):Prop:=(MayP G->∀l,levF G.ts=some l->by8 t=tx (vr G l))/\(¬MayP G->t=⟨#[]⟩)
def NewL (w wr:World) (b:Nat) (L:List (List (List UInt8))):Prop:=∃v,Bld wr b v (tx L)/\OkL L/\Below w.heap.size w wr/\∀k,Foot b v k->w.heap.size<=k
theorem qm0:((List.range 10000).all fun n=>decide ((dg 6 n []).length<=100))=true:=by kernel_rfl
theorem qr6(n:Nat)(h:n<=9999):(dg 6 n []).length<=100:=by
 have:=List.all_eq_true.1 qm0 n (List.mem_range.2 (by omega))
 simpa using this
theorem NewL.put{w wr a:World}{b:Nat}{v v':Value}{L:List (List (List UInt8))}(f:Below w.heap.size w wr)(c:∀k,Foot b v k->w.heap.size<=k)(d:Bld a b v' (tx L))(h:OkL L)(g:za wr b v a v'):NewL w a b L:=by
 obtain⟨-,-,i,-⟩:=NewB.step f c d g;refine⟨v',d,h,i,?_⟩;rintro k (rfl | j)
 ·exact c k (.inl rfl)
 ·rcases g.2 k j with h7 | h7
  ·exact c k (.inr h7)
  ·exact Nat.le_trans f.size h7
theorem NewL.below{w wr a:World}{b:Nat}{L:List (List (List UInt8))}(h:NewL w wr b L)(c:Below wr.heap.size wr a):NewL w a b L:=by
 obtain⟨v,d,f,g,i⟩:=h;exact⟨v,d.below c,f,qd g c,i⟩
theorem NewL.bel{w wr:World}{b:Nat}{L:List (List (List UInt8))}(h:NewL w wr b L):Below w.heap.size w wr:=by
 obtain⟨v,-,-,a,-⟩:=h;exact a
theorem qcr(l:List ByteArray)(c:Option Addr)(n a b:Nat)(L:List (List (List UInt8)))(w W:World)(r:Row W 1 c n a (strC l))(q:n=l.length)(m:1<=n)(d:n<=1000)(s:∀x∈l,x.size<=100)(o:NewL w W b L)(p:L.length<=400):
  Calls Tryz.prog 146 #[.pointer (some ⟨b,0,none⟩),.slice c n a] W fun e f=>e=.returned (.tuple #[])/\NewL w f b (L++[l.map by8]):=by
 obtain⟨v,g,h,i,j⟩:=o;refine(qch l c n a b v L W r q m d s g h p).mono ?_;rintro e f ⟨v',rfl,c1,c2,k⟩;exact⟨rfl,NewL.put i j c1 c2 k⟩
theorem qk8(r:Ru)(a:Option Addr)(c b:Nat)(L:List (List (List UInt8)))(w W:World)(n:Row W 1 a r.r.length c (strC r.r))(o:r.l.size<=100/\r.p.size<=100/\r.r.length<=100/\∀x∈r.r,x.size<=100)(k:NewL w W b L)(m:L.length<=400):
  Calls Tryz.prog 148 #[.pointer (some ⟨b,0,none⟩),.agg #[.string r.l,.slice a r.r.length c,.string r.p]] W fun e d=>e=.returned (.tuple #[])/\NewL w d b (L++[(vi r).map by8]):=by
 obtain⟨v,f,g,h,i⟩:=k;refine(qiw r a c b v L W n o f g m).mono ?_;rintro e d ⟨v',rfl,c1,c2,j⟩;exact⟨rfl,NewL.put h i c1 c2 j⟩
theorem qm1(w:World):NewL w (w.alloc (.cells #[.pointer none,.slice none 0 0] 165)) w.heap.size []:=by
 obtain⟨a,b,c⟩:=qea w w (Below.refl _ _);exact⟨.slice none 0 0,a,fun _ h=>(by cases h),b,c⟩
theorem qix(ts:List Tk)(l:List Int)(d:Option Addr)(n c b:Nat)(w W:World)(j:Row w 3 d n c (tokC ts))(E:n=ts.length)(i:n<=100)(F:∀t∈ts,t.n.size<=100)(f:levF ts=some l)(h:qaf l)(A:NewL w W b []):
  Calls Tryz.prog 145 #[.pointer (some ⟨b,0,none⟩),.slice d n c] W fun e p=>e=.returned (.tuple #[])/\NewL w p b (zq ts++zu ts l 8):=by
 obtain⟨v,q,r,k,m⟩:=A;refine(qgi ts l d n c b v [] W (j.below k) E i F f h (fun u a B D=>?_) q r (by simp)).mono ?_
 ·obtain⟨g,o,e,C⟩:=j.at u;rw[B]at e
  cases e
  have x:=m _ D;have y:(tokC ts)[0]?=some ((tokC ts)[0]'(by rw[j.len];omega)):=List.getElem?_eq_getElem _
  have z:=World.block_lt_of_cell? w _ (C 0 _ y);simp only at x z;omega
 ·rintro e p ⟨v',rfl,c1,c2,s⟩;rw[List.nil_append]at c1 c2;exact⟨rfl,NewL.put k m c1 c2 s⟩
def qn1 (F:Nat):Prop:=∀(G:Gm) (h:Hd) (w:World) (T:ByteArray),IsG w h G->Pow w->qmz G T->Calls Tryz.prog F #[gv h G] w fun e w'=>e=.returned (.string T)/\Below w.heap.size w w'
theorem qm2:qn1 125:=by
 intro G h w T Z a1 hT;obtain⟨r,hr⟩:=zr (MayP G)
 have HM:Hid (∀W:World,Below w.heap.size w W->Calls Tryz.prog 80 #[gv h G] W fun e f=>e=.returned (.bool r)/\Below W.heap.size W f):=fun W K=>qce G h W r (Z.below K) hr
 obtain⟨ts,a,c,rs⟩:=G;obtain⟨C,s,P,Q⟩:=h
 have d3:ts.length<=s/\s<=9223372036854775807:=by have Y:=Z.tok.le;have h2:=Z.tok.max;simp only at Y h2;unfold maxLen at h2;omega
 have b9:=kj Z.rul;simp only at b9;have d5:ts.length<=100:=Z.small.nt;have d6:rs.length<=200:=Z.small.nr;have HG:Hid (IsG w ⟨C,s,P,Q⟩ ⟨ts,a,c,rs⟩):=Z;have HP:Hid (Pow w):=a1;have HT:Hid (qmz ⟨ts,a,c,rs⟩ T):=hT;have HR:Hid (r=true↔MayP ⟨ts,a,c,rs⟩):=hr;unfold gv at HM ⊢;simp only at HM ⊢;clear Z a1 hT hr
 obtain⟨R,a6⟩:∃n,ts.length=n:=⟨_,rfl⟩
 have d0:Hid (ts.length=R):=a6
 obtain⟨m,a5⟩:∃n,rs.length=n:=⟨_,rfl⟩
 have X:Hid (rs.length=m):=a5;rw[a6]at d3 d5 HM ⊢;rw[a5]at b9 d6 HM ⊢;clear a6 a5;go_enter Tryz.func125,Tryz.ntmps125
 go_upto_region 1 with fail
 have c0:(w.alloc (.cells #[.slice C R s,.string a,.int .i64 c,.slice P m Q] 25)).cell? ⟨w.heap.size,0,none⟩=some (.slice C R s):=by rw[World.cell?_alloc_mark];rfl
 have c1:(w.alloc (.cells #[.slice C R s,.string a,.int .i64 c,.slice P m Q] 25)).cell? ⟨w.heap.size,1,none⟩=some (.string a):=by rw[World.cell?_alloc_mark];rfl
 have c2:(w.alloc (.cells #[.slice C R s,.string a,.int .i64 c,.slice P m Q] 25)).cell? ⟨w.heap.size,2,none⟩=some (.int .i64 c):=by rw[World.cell?_alloc_mark];rfl
 have c3:(w.alloc (.cells #[.slice C R s,.string a,.int .i64 c,.slice P m Q] 25)).cell? ⟨w.heap.size,3,none⟩=some (.slice P m Q):=by rw[World.cell?_alloc_mark];rfl
 have HB:Hid (Below w.heap.size w (w.alloc (.cells #[.slice C R s,.string a,.int .i64 c,.slice P m Q] 25))):=qb _ _;generalize w.alloc (.cells #[.slice C R s,.string a,.int .i64 c,.slice P m Q] 25)=wq at c0 c1 c2 c3 HB ⊢
 obtain⟨gb,b7⟩:∃gb,gb=w.heap.size:=⟨_,rfl⟩
 rw[<-b7]at c0 c1 c2 c3 ⊢;clear b7;go_wp2_with fail;refine(HM.out _ HB.out).mono ?_;rintro e w1 ⟨rfl,u⟩
 have C0:Hid (∀W:World,Below w1.heap.size w1 W->W.cell? ⟨gb,0,none⟩=some (.slice C R s)/\W.cell? ⟨gb,1,none⟩=some (.string a)/\W.cell? ⟨gb,2,none⟩=some (.int .i64 c)/\W.cell? ⟨gb,3,none⟩=some (.slice P m Q)):=fun W K=>⟨qj (qd u K) c0,qj (qd u K) c1,qj (qd u K) c2,qj (qd u K) c3⟩
 have D:Hid (Below w.heap.size w w1):=qd HB.out u;clear c0 c1 c2 c3 HB u HM
 cases r
 ·have S:Hid (T=⟨#[]⟩):=HT.out.2 (fun h=>by have:=HR.out.2 h;cases this)
  go_wp2_with fail;go_ret;exact⟨by rw[S.out];rfl,D.out⟩
 ·have g:MayP ⟨ts,a,c,rs⟩:=HR.out.1 rfl;obtain⟨l,a7,b8⟩:=g.tk.2;have d1:Hid (by8 T=tx (vr ⟨ts,a,c,rs⟩ l)):=HT.out.1 g l a7
  have i:Hid (IsG w1 ⟨C,s,P,Q⟩ ⟨ts,a,c,rs⟩/\Pow w1):=⟨HG.out.below D.out,HP.out.below D.out⟩
  have d8:0<=c:=g.e0;have d9:c<=9999:=g.e1;have I:Hid (NewL w1 (w1.alloc (.cells #[.pointer none,.slice none 0 0] 165)) w1.heap.size []):=qm1 w1
  have b0:Hid (∀(W:World) (b:Nat),NewL w1 W b []->Calls Tryz.prog 145 #[.pointer (some ⟨b,0,none⟩),.slice C R s] W fun e f=>e=.returned (.tuple #[])/\NewL w1 f b (zq ts++zu ts l 8)):=fun W b K=>by
   have:=qix ts l C ts.length s b w1 W i.out.1.tok rfl i.out.1.small.nt i.out.1.small.tk a7 b8 K
   rwa [d0.out]at this
  clear g a7 b8 HG HP HT HR
  go_upto_region 4 with fail
  generalize w1.alloc (.cells #[.pointer none,.slice none 0 0] 165)=w2 at I ⊢
  obtain⟨d,c6⟩:∃d,d=w1.heap.size:=⟨_,rfl⟩
  rw[<-c6]at I ⊢;clear c6;obtain⟨c0,-,-,-⟩:=C0.out w2 I.out.bel;go_wp2_with fail;refine(b0.out _ _ I.out).mono ?_;rintro e w3 ⟨rfl,b2⟩;have U:Hid (NewL w1 w3 d (zq ts++zu ts l 8)):=b2
  have E:Hid ((zq ts++zu ts l 8).length<=9):=by
   show _<=_;rw[List.length_append];have:=qec ts l 8
   have h2:(zq ts).length<=1:=by unfold zq;split <;> simp
   omega
  clear b2 b0 I c0;obtain⟨-,c1,-,-⟩:=C0.out w3 U.out.bel
  obtain⟨se,c7⟩:∃pe:Bool,(a.toList == [])=pe:=⟨_,rfl⟩
  go_upto_if 14 with fail
  have a4:Hid (se=true↔a=⟨#[]⟩):=by show _↔_;rw[<-c7];exact zo a
  clear c7
  go_cut [15] (fun s15 wd=>Hid (NewL w1 wd d (zq ts++zu ts l 8++km a)))
  case first =>
   by_cases A:a=⟨#[]⟩
   ·have Y:se=true:=a4.out.2 A;subst Y
    have S:Hid (NewL w1 w3 d (zq ts++zu ts l 8++km a)):=by
     have e:km a=[]:=by unfold km;rw[if_pos A]
     rw[e,List.append_nil];exact U.out
    clear A;go_wp2_with fail;go_meet;exact S
   ·have Y:se=false:=zb a4.out A;subst Y
    have q:Hid (Calls Tryz.prog 146 #[.pointer (some ⟨d,0,none⟩),.slice (some ⟨w3.heap.size,0,none⟩) 2 2] (w3.alloc (.cells #[.string ⟨#[37,115,116,97,114,116]⟩,.string a] 9)) fun e f=>e=.returned (.tuple #[])/\NewL w1 f d (zq ts++zu ts l 8++km a)):=by
     have e:km a=[([⟨#[37,115,116,97,114,116]⟩,a]:List ByteArray).map by8]:=by unfold km;rw[if_neg A]
     rw[e]
     exact qcr [⟨#[37,115,116,97,114,116]⟩,a] _ 2 2 d _ w1 _ (vx w3 [⟨#[37,115,116,97,114,116]⟩,a] (by simp)) rfl (by omega) (by omega) (fun x B=>by
      simp only[List.mem_cons,List.not_mem_nil,or_false]at B
      rcases B with rfl | rfl
      ·exact(by decide:(⟨#[37,115,116,97,114,116]⟩:ByteArray).size<=100)
      ·exact i.out.1.small.st) (U.out.below (qb _ _)) (by have:=E.out;omega)
    clear A;go_wp2_with fail;refine q.out.mono ?_;rintro e O ⟨rfl,b3⟩;have j:Hid (NewL w1 O d (zq ts++zu ts l 8++km a)):=b3;clear b3 q;go_wp2_with fail;go_meet;exact j
  case rest =>
   obtain⟨O,f0⟩:∃O,O=wc:=⟨_,rfl⟩
   subst wc;have j:Hid (NewL w1 O d (zq ts++zu ts l 8++km a)):=hcut
   have F:Hid ((zq ts++zu ts l 8++km a).length<=10):=by
    show _<=_;rw[List.length_append]
    have h2:(km a).length<=1:=by unfold km;split <;> simp
    have:=E.out;omega
   clear hcut U E c1 a4;obtain⟨-,-,c2,-⟩:=C0.out O j.out.bel
   go_upto_if 21 with fail
   go_cut [22] (fun s22 wd=>Hid (NewL w1 wd d (zq ts++zu ts l 8++km a++vy c)))
   case first =>
    by_cases z:c=0
    ·have Y:(c != 0)=false:=by simpa using z
     have S:Hid (NewL w1 O d (zq ts++zu ts l 8++km a++vy c)):=by
      have e:vy c=[]:=by unfold vy;rw[if_pos z]
      rw[e,List.append_nil];exact j.out
     clear z;go_wp2_with fail;go_meet;exact S
    ·have Y:(c != 0)=true:=by simpa using z
     have q:Hid (Calls Tryz.prog 147 #[.int .i64 c] O fun e f=>∃t,e=.returned (.string t)/\by8 t=dg 6 c.toNat []/\Below O.heap.size O f):=by
      have:=qmy c.toNat O (by omega) (i.out.2.below j.out.bel)
      rwa [show((c.toNat:Nat):Int)=c by omega]at this
     go_wp2_with fail;refine q.out.mono ?_;rintro e w5 ⟨t,rfl,ht,b1⟩
     have d7:t.size<=100:=by
      rw[<-qy,ht];exact qr6 _ (by omega)
     have a8:Hid (Calls Tryz.prog 146 #[.pointer (some ⟨d,0,none⟩),.slice (some ⟨w5.heap.size,0,none⟩) 2 2] (w5.alloc (.cells #[.string ⟨#[37,101,120,112,101,99,116]⟩,.string t] 9)) fun e f=>e=.returned (.tuple #[])/\NewL w1 f d (zq ts++zu ts l 8++km a++vy c)):=by
      have e:vy c=[([⟨#[37,101,120,112,101,99,116]⟩,t]:List ByteArray).map by8]:=by unfold vy;rw[if_neg z,<-ht];rfl
      rw[e]
      exact qcr [⟨#[37,101,120,112,101,99,116]⟩,t] _ 2 2 d _ w1 _ (vx w5 [⟨#[37,101,120,112,101,99,116]⟩,t] (by simp)) rfl (by omega) (by omega) (fun x B=>by
       simp only[List.mem_cons,List.not_mem_nil,or_false]at B
       rcases B with rfl | rfl
       ·exact(by decide:(⟨#[37,101,120,112,101,99,116]⟩:ByteArray).size<=100)
       ·exact d7) ((j.out.below b1).below (qb _ _)) (by have:=F.out;omega)
     clear z ht b1 q;go_wp2_with fail;refine a8.out.mono ?_;rintro e w6 ⟨rfl,b4⟩;have V:Hid (NewL w1 w6 d (zq ts++zu ts l 8++km a++vy c)):=b4;clear b4 a8;go_wp2_with fail;go_meet;exact V
   case rest =>
    obtain⟨w6,f1⟩:∃w6,w6=wc:=⟨_,rfl⟩
    subst wc;have V:Hid (NewL w1 w6 d (zq ts++zu ts l 8++km a++vy c)):=hcut
    have H:Hid ((zq ts++zu ts l 8++km a++vy c).length<=11):=by
     show _<=_;rw[List.length_append]
     have h2:(vy c).length<=1:=by unfold vy;split <;> simp
     have:=F.out;omega
    have q:Hid (Calls Tryz.prog 146 #[.pointer (some ⟨d,0,none⟩),.slice (some ⟨w6.heap.size,0,none⟩) 1 1] (w6.alloc (.cells #[.string ⟨#[37,37]⟩] 9)) fun e f=>e=.returned (.tuple #[])/\NewL w1 f d (vq ⟨ts,a,c,rs⟩ l)) :=
     qcr [⟨#[37,37]⟩] _ 1 1 d _ w1 _ (vx w6 [⟨#[37,37]⟩] (by simp)) rfl (by omega) (by omega) (fun x B=>by
      rw[List.mem_singleton]at B;subst B
      exact(by decide:(⟨#[37,37]⟩:ByteArray).size<=100)) (V.out.below (qb _ _)) (by have:=H.out;simp only;omega)
    have a9:Hid ((vq ⟨ts,a,c,rs⟩ l).length<=12):=by
     show _<=_;unfold vq;rw[List.length_append];have:=H.out;simp only[List.length_cons,List.length_nil];omega
    clear hcut j F c2 V H;go_wp2_with fail;refine q.out.mono ?_;rintro e w7 ⟨rfl,b5⟩;have a3:Hid (NewL w1 w7 d (vq ⟨ts,a,c,rs⟩ l)):=b5;clear b5 q;obtain⟨-,-,-,c3⟩:=C0.out w7 a3.out.bel
    go_upto_block 0 with fail
    go_cut [32] (fun s32 wd=>Hid (NewL w1 wd d (vr ⟨ts,a,c,rs⟩ l)))
    case first =>
     go_wp2_with fail
     go_loopg [32] m (fun kx s32 wr=>∃k:Nat,s32=.int .i64 k/\k<=m/\m - k<=kx/\Hid (NewL w1 wr d (vq ⟨ts,a,c,rs⟩ l++(rs.take k).map fun r=>(vi r).map by8)))
     case atStart=>exact⟨0,rfl,Nat.zero_le _,by omega,(by rw[List.take_zero,List.map_nil,List.append_nil];exact a3)⟩
     case round =>
      obtain⟨k,rfl,hk,hg,J⟩:=hrel;clear a3 c3
      by_cases d2:k<m
      ·obtain⟨x,B⟩:∃x,rs[k]?=some x:=⟨rs[k]'(by rw[X.out];exact d2),List.getElem?_eq_getElem _⟩
       have N:=i.out.1.rul.below J.out.bel;simp only at N;obtain⟨rb,o,xa,xc,d4,p0,p1,p2,a2⟩:=N.at B;subst d4;have c9:Hid (x.l.size<=100/\x.p.size<=100/\x.r.length<=100/\∀y∈x.r,y.size<=100):=i.out.1.small.rl x (List.mem_of_getElem? B)
       have HE:Hid ((vq ⟨ts,a,c,rs⟩ l++(rs.take k).map fun r=>(vi r).map by8)++[(vi x).map by8]=vq ⟨ts,a,c,rs⟩ l++(rs.take (k+1)).map fun r=>(vi r).map by8):=by
        show _=_;rw[zn B,List.map_append,<-List.append_assoc];rfl
       have q:Hid (∀W:World,Below wr.heap.size wr W->Calls Tryz.prog 148 #[.pointer (some ⟨d,0,none⟩),.agg #[.string x.l,.slice xa x.r.length xc,.string x.p]] W fun e f=>e=.returned (.tuple #[])/\NewL w1 f d (vq ⟨ts,a,c,rs⟩ l++(rs.take (k+1)).map fun r=>(vi r).map by8)):=fun W K=>by
        have:=qk8 x xa xc d _ w1 W (a2.below K) c9.out (J.out.below K) (by rw[List.length_append,List.length_map,List.length_take,X.out];have:=a9.out;omega)
        rwa [HE.out]at this
       clear B a2 N HE;go_wp2_with fail;refine(q.out _ (qb _ _)).mono ?_;rintro e w8 ⟨rfl,b6⟩;have c8:Hid (NewL w1 w8 d (vq ⟨ts,a,c,rs⟩ l++(rs.take (k+1)).map fun r=>(vi r).map by8)):=b6;clear b6 q J;go_wp2_with fail;go_roundg (m - (k+1))
       case measure=>omega
       case rel=>exact⟨k+1,by simp,by omega,Nat.le_refl _,c8⟩
      ·obtain rfl:k=m:=by omega
       have S:Hid (NewL w1 wr d (vr ⟨ts,a,c,rs⟩ l)):=by
        have:=J.out
        rwa [<-X.out,List.take_length]at this
       clear J;go_wp2_with fail;go_meet;exact S
    case rest =>
     obtain⟨v,hB,c5,L,M⟩:=hcut.out
     have c4:tx (vr ⟨ts,a,c,rs⟩ l)≠[]:=by
      unfold vr vq;rw[qeb,qeb];intro h;have:=congrArg List.length h;simp[tx,qbn]at this
     have a0:(tx (vr ⟨ts,a,c,rs⟩ l)).length<=100000000:=by
      have Y:=qh1 c5
      have h2:(vr ⟨ts,a,c,rs⟩ l).length<=212:=by
       unfold vr;rw[List.length_append,List.length_map];have:=a9.out;simp only;rw[X.out];omega
      omega
     have q:Hid (Calls Tryz.prog 149 #[.pointer (some ⟨d,0,none⟩)] wc fun e f=>e=.returned (.string T)/\Kept (Foot d v) wc f):=by
      have:=qdt d v _ wc hB c4 a0
      have e:(⟨(tx (vr ⟨ts,a,c,rs⟩ l)).toArray⟩:ByteArray)=T:=by rw[<-d1.out];apply qlx;rfl
      rwa [e]at this
     have HK:Hid (∀f,Kept (Foot d v) wc f->Below w.heap.size w f):=fun f hk=>D.out.trans ((L.trans (hk.below L.size (fun k hk hf=>by have:=M k hf;omega))).mono D.out.size)
     clear hB c5 L M c4 a0 hcut;go_wp2_with fail;refine q.out.mono ?_;rintro e w9 ⟨rfl,hK⟩;have S:Hid (Below w.heap.size w w9):=HK.out _ hK;clear hK q;go_wp2_with fail;go_ret;exact⟨rfl,S.out⟩
structure OwnG (w:World) (base:Nat) (h:Hd) (G:Gm) (qs:List (Ru × Option Addr × Nat)):Prop where
 tok:w.ownsRow base 58 3 (.slice h.ta G.ts.length h.tc) G.ts.length (tokC G.ts)
 rul:w.ownsRow base 55 3 (.slice h.ra G.rs.length h.rc) G.rs.length (rulC qs)
 map:qs.map (·.1)=G.rs
 row:∀q∈qs,OwnS w base (.slice q.2.1 q.1.r.length q.2.2) q.1.r
theorem OwnG.isG{w:World}{a:Nat}{h:Hd}{G:Gm}{qs:List (Ru × Option Addr × Nat)}(o:OwnG w a h G qs)(s:Small G):IsG w h G:=⟨Row.of_own o.tok,⟨qs,o.map,Row.of_own o.rul,fun q b=>(o.row q b).row rfl⟩,s⟩
theorem OwnG.below{w d:World}{a:Nat}{h:Hd}{G:Gm}{qs:List (Ru × Option Addr × Nat)}(o:OwnG w a h G qs)(b:Below w.heap.size w d):OwnG d a h G qs :=
 ⟨qh o.tok (fun i c=>b.block i (World.ownsRow.lt o.tok i c).2),qh o.rul (fun i c=>b.block i (World.ownsRow.lt o.rul i c).2),o.map,fun q f=>(o.row q f).below b⟩
def bN:ByteArray:=⟨#[78]⟩
def bP:ByteArray:=⟨#[80]⟩
def bM:ByteArray:=⟨#[77]⟩
def bE:ByteArray:=⟨#[101]⟩
def e0:ByteArray:=⟨#[]⟩
def qu:Gm:=⟨[⟨bN,0,0⟩,⟨bP,1,1⟩,⟨bM,2,1⟩],e0,0,[⟨bE,[bE,bP,bE],e0⟩,⟨bE,[bE,bM,bE],e0⟩,⟨bE,[bN],e0⟩]⟩
theorem qan:Small qu:=by
 have f:bN.size<=100:=by decide
 have g:bP.size<=100:=by decide
 have d:bM.size<=100:=by decide
 have a:bE.size<=100:=by decide
 have c:e0.size<=100:=by decide
 refine⟨by decide,by decide,c,?_,?_⟩
 ·intro t i;simp only[qu,List.mem_cons,List.not_mem_nil,or_false]at i
  rcases i with rfl | rfl | rfl
  ·exact f
  ·exact g
  ·exact d
 ·intro r h;simp only[qu,List.mem_cons,List.not_mem_nil,or_false]at h
  rcases h with rfl | rfl | rfl
  all_goals
   refine⟨a,c,by decide,?_⟩;intro x b;simp only[List.mem_cons,List.not_mem_nil,or_false]at b
  ·rcases b with rfl | rfl | rfl
   ·exact a
   ·exact g
   ·exact a
  ·rcases b with rfl | rfl | rfl
   ·exact a
   ·exact d
   ·exact a
  ·subst b;exact f
theorem vz(w:World)(a E k n:Nat)(cs:List Value)(c:a<=w.heap.size)(b:cs.length=n * k)(d:n<=1000):(w.alloc (.cells cs.toArray E)).ownsRow a E k (.slice (some ⟨w.heap.size,0,none⟩) n n) n cs:=by
 refine⟨b,.inr ⟨w.heap.size,n,cs.toArray,rfl,c,heap_alloc_new _ _,Nat.le_refl _,by unfold maxLen;omega,by simp[b],?_⟩⟩
 rw[List.toList_toArray,List.take_of_length_le (by omega)]
def qjd (n:Nat):Hd:=⟨some ⟨n+1,0,none⟩,3,some ⟨n+1+1+1+1+1,0,none⟩,3⟩
def qbo (n:Nat):List (Ru × Option Addr × Nat):=[(⟨bE,[bE,bP,bE],e0⟩,some ⟨n+1+1,0,none⟩,3),(⟨bE,[bE,bM,bE],e0⟩,some ⟨n+1+1+1,0,none⟩,3),(⟨bE,[bN],e0⟩,some ⟨n+1+1+1+1,0,none⟩,1)]
def qgj (w:World):World:=(((((w.alloc (.cells #[.slice (some ⟨w.heap.size+1,0,none⟩) 3 3,.string e0,.int .i64 0,.slice (some ⟨w.heap.size+1+1+1+1+1,0,none⟩) 3 3] 25)).alloc (.cells (tokC qu.ts).toArray 58)).alloc (.cells (strC [bE,bP,bE]).toArray 9)).alloc (.cells (strC [bE,bM,bE]).toArray 9)).alloc (.cells (strC [bN]).toArray 9)).alloc (.cells (rulC (qbo w.heap.size)).toArray 55)
theorem qpj(w:World):OwnG (qgj w) w.heap.size (qjd w.heap.size) qu (qbo w.heap.size)/\Below w.heap.size w (qgj w):=by
 unfold qgj;generalize l:w.alloc (.cells #[.slice (some ⟨w.heap.size+1,0,none⟩) 3 3,.string e0,.int .i64 0,.slice (some ⟨w.heap.size+1+1+1+1+1,0,none⟩) 3 3] 25)=h
 have s0:h.heap.size=w.heap.size+1:=by rw[<-l];exact qt _ _
 have s:Below w.heap.size w h:=by rw[<-l];exact qb _ _
 generalize b:h.alloc (.cells (tokC qu.ts).toArray 58)=w1
 have s1:w1.heap.size=w.heap.size+1+1:=by rw[<-b,qt,s0]
 have t:Below h.heap.size h w1:=by rw[<-b];exact qb _ _
 have p:w1.ownsRow w.heap.size 58 3 (.slice (some ⟨w.heap.size+1,0,none⟩) 3 3) 3 (tokC qu.ts):=by
  rw[<-b,<-s0];exact vz h _ 58 3 3 _ (by omega) rfl (by omega)
 generalize c:w1.alloc (.cells (strC [bE,bP,bE]).toArray 9)=w2
 have s2:w2.heap.size=w.heap.size+1+1+1:=by rw[<-c,qt,s1]
 have u:Below w1.heap.size w1 w2:=by rw[<-c];exact qb _ _
 have x:OwnS w2 w.heap.size (.slice (some ⟨w.heap.size+1+1,0,none⟩) 3 3) [bE,bP,bE]:=by
  rw[<-c,<-s1];exact vz w1 _ 9 1 3 (strC [bE,bP,bE]) (by omega) rfl (by omega)
 generalize d:w2.alloc (.cells (strC [bE,bM,bE]).toArray 9)=g
 have s3:g.heap.size=w.heap.size+1+1+1+1:=by rw[<-d,qt,s2]
 have n:Below w2.heap.size w2 g:=by rw[<-d];exact qb _ _
 have y:OwnS g w.heap.size (.slice (some ⟨w.heap.size+1+1+1,0,none⟩) 3 3) [bE,bM,bE]:=by
  rw[<-d,<-s2];exact vz w2 _ 9 1 3 (strC [bE,bM,bE]) (by omega) rfl (by omega)
 generalize f:g.alloc (.cells (strC [bN]).toArray 9)=a
 have s4:a.heap.size=w.heap.size+1+1+1+1+1:=by rw[<-f,qt,s3]
 have m:Below g.heap.size g a:=by rw[<-f];exact qb _ _
 have z:OwnS a w.heap.size (.slice (some ⟨w.heap.size+1+1+1+1,0,none⟩) 1 1) [bN]:=by
  rw[<-f,<-s3];exact vz g _ 9 1 1 (strC [bN]) (by omega) rfl (by omega)
 have r:(a.alloc (.cells (rulC (qbo w.heap.size)).toArray 55)).ownsRow w.heap.size 55 3 (.slice (some ⟨w.heap.size+1+1+1+1+1,0,none⟩) 3 3) 3 (rulC (qbo w.heap.size)):=by
  have:=vz a w.heap.size 55 3 3 (rulC (qbo w.heap.size)) (by omega) rfl (by omega)
  rwa [s4]at this
 have k:Below a.heap.size a (a.alloc (.cells (rulC (qbo w.heap.size)).toArray 55)):=qb _ _;generalize a.alloc (.cells (rulC (qbo w.heap.size)).toArray 55)=A at r k ⊢;have j:Below w1.heap.size w1 A:=qd (qd (qd u n) m) k;refine⟨⟨qh p (fun i v=>j.block i (World.ownsRow.lt p i v).2),r,rfl,?_⟩,qd s (qd t j)⟩;intro q o;simp only[qbo,List.mem_cons,List.not_mem_nil,or_false]at o
 rcases o with rfl | rfl | rfl
 ·exact((x.below n).below m).below k
 ·exact(y.below m).below k
 ·exact z.below k
theorem qdb(w:World):Calls Tryz.prog 25 #[] w fun e a=>∃h qs,e=.returned (gv h qu)/\OwnG a w.heap.size h qu qs/\Below w.heap.size w a:=by
 have b:Hid (OwnG (qgj w) w.heap.size (qjd w.heap.size) qu (qbo w.heap.size)/\Below w.heap.size w (qgj w)):=qpj w;go_enter Tryz.func25,Tryz.ntmps25;go_wp2;refine bodyPost_ret (v:=gv (qjd w.heap.size) qu) (by simp[results,Tryz.results25,go_sem,gv,qjd,qu,e0]) rfl ?_;exact⟨_,_,rfl,b.out⟩
theorem ql3{w:World}{a E k g n b j:Nat}{cs:List Value}{u:Value}(h:w.ownsRow a E k (.slice (some ⟨g,0,none⟩) n b) n cs):
  (w.setCell ⟨g,j,none⟩ u).ownsRow a E k (.slice (some ⟨g,0,none⟩) n b) n (cs.set j u):=by
 refine⟨by rw[List.length_set];exact h.1,?_⟩
 rcases h.2 with ⟨hv,-⟩ | ⟨g',cap',cur,hv,hb,hh,hn,hm,hs,ht⟩
 ·cases hv
 ·cases hv
  refine .inr ⟨g,b,cur.setIfInBounds j u,rfl,hb,?_,hn,hm,by simp[hs],?_⟩
  ·rw[setCell_eq_setRow w g j cur E (0,0) _ hh];exact setRow_heap w g cur _ E _ hh
  ·rw[Array.toList_setIfInBounds,List.take_set,ht]
theorem qfm{w:World}{f b E l k p n q:Nat}{v v':Value}{cs i:List Value}(h:w.ownsRow f E k v n cs)(m:w.ownsRow b l p v' q i)(o:E≠l){g:Nat}(j:v.ownBlock=some g):v'.ownBlock≠some g:=by
 intro d
 rcases h.2 with ⟨rfl,-⟩ | ⟨a,c,cur,rfl,-,hh,-⟩
 ·cases j
 ·rcases m.2 with ⟨rfl,-⟩ | ⟨a',c',cur',rfl,-,hh',-⟩
  ·cases d
  ·simp only[Value.ownBlock,Option.some.injEq]at j d;subst j;subst d;rw[hh]at hh';simp only[Option.some.injEq,Obj.cells.injEq]at hh';exact o hh'.2.1
theorem qpk{w:World}{a E k g n b j:Nat}{cs:List Value}{u:Value}(h:w.ownsRow a E k (.slice (some ⟨g,0,none⟩) n b) n cs)(c:cs[j]?=some u):w.cell? ⟨g,j,none⟩=some u/\w.frozen? ⟨g,j,none⟩=false:=by
 have:=World.ownsRow.cells h (g:=g) rfl j u c;rw[Addr.add_lit,Nat.zero_add]at this;refine⟨this,?_⟩
 rcases h.2 with ⟨hv,-⟩ | ⟨g',cap',cur,hv,hb,hh,-⟩
 ·cases hv
 ·cases hv
  exact qi hh j
theorem qh2{α:Type}(f:α->List Value)(a:∀x,(f x).length=3)(y:α)(j:Nat)(u:Value):∀(l:List α) (i:Nat) (x:α),l[i]?=some x->j<3->(f x).set j u=f y->(l.flatMap f).set (i * 3+j) u=(l.set i y).flatMap f
 | [],i,x,h,_,_=>by cases h
 | z :: r,0,x,h,hj,he=>by
  cases h
  rw[List.set_cons_zero,List.flatMap_cons,List.flatMap_cons,Nat.zero_mul,Nat.zero_add,List.set_append_left _ _ (by rw[a];exact hj),he]
 | z :: r,i+1,x,h,hj,he=>by
  rw[List.set_cons_succ,List.flatMap_cons,List.flatMap_cons,List.set_append_right _ _ (by rw[a];omega),a,show(i+1) * 3+j - 3=i * 3+j by omega]
  rw[qh2 f a y j u r i x h hj he]
theorem OwnG.setRule{w:World}{c g:Nat}{h:Hd}{G:Gm}{qs:List (Ru × Option Addr × Nat)}(o:OwnG w c h G qs)(m:h.ra=some ⟨g,0,none⟩){i j:Nat}{q:Ru × Option Addr × Nat}(x:qs[i]?=some q)(A:j<3)(f:Ru)(u:Value)(B:f.r=q.1.r)(z:([.string q.1.l,.slice q.2.1 q.1.r.length q.2.2,.string q.1.p]:List Value).set j u=[.string f.l,.slice q.2.1 f.r.length q.2.2,.string f.p]):
  OwnG (w.setCell ⟨g,i * 3+j,none⟩ u) c h ⟨G.ts,G.s,G.e,G.rs.set i f⟩ (qs.set i (f,q.2)):=by
 have a:=o.rul;rw[m]at a;refine⟨?_,?_,?_,?_⟩
 ·refine qh o.tok (fun b t=>Below.heap_setCell _ _ _ _ (fun e=>?_));simp only at e;subst e;exact qfm a o.tok (by decide) (g:=b) rfl t
 ·have k:=ql3 (u:=u) (j:=i * 3+j) a;have y:(rulC qs).set (i * 3+j) u=rulC (qs.set i (f,q.2)):=qh2 _ (fun _=>rfl) (f,q.2) j u qs i q x A z;rw[y]at k;simp only[List.length_set];rw[m];exact k
 ·simp only;rw[List.map_set,o.map]
 ·intro n v
  have d:OwnS w c (.slice n.2.1 n.1.r.length n.2.2) n.1.r:=by
   rcases List.mem_or_eq_of_mem_set v with k | k
   ·exact o.row n k
   ·subst k;simp only;rw[B];exact o.row q (List.mem_of_getElem? x)
  refine qh d (fun b t=>Below.heap_setCell _ _ _ _ (fun e=>?_));simp only at e;subst e;exact qfm a d (by decide) (g:=b) rfl t
theorem qj0(G:Gm)(h:Hd)(w:World)(f:IsG w h G)(s:ByteArray)(k:Nat)(t:Tk)(q:G.ts[k]?=some t)(R:t.n=s):
  Calls Tryz.prog 54 #[gv h G,.string s] w fun e V=>∃m:Nat,e=.returned (.int .i64 m)/\(m=k↔¬hasN (G.ts.take k) s)/\Below w.heap.size w V:=by
 obtain⟨ts,z,p,rs⟩:=G;obtain⟨d,a,r,x⟩:=h;simp only at q
 have P:Hid (ts[k]?=some t/\t.n=s):=⟨q,R⟩
 have F:k<ts.length:=(List.getElem?_eq_some_iff.1 q).1
 have I:ts.length<=a/\a<=9223372036854775807:=by have T:=f.tok.le;have Q:=f.tok.max;simp only at T Q;unfold maxLen at Q;omega
 have L:ts.length<=100:=f.small.nt;have C:Hid (Row w 3 d ts.length a (tokC ts)):=f.tok;unfold gv;simp only;clear f q R
 obtain⟨n,O⟩:∃n,Hid (ts.length=n):=⟨_,rfl⟩
 rw[O.out]at C I L F ⊢;generalize rs.length=y;go_enter Tryz.func54,Tryz.ntmps54
 go_upto_region 1 with fail
 have c0:(w.alloc (.cells #[.slice d n a,.string z,.int .i64 p,.slice r y x] 25)).cell? ⟨w.heap.size,0,none⟩=some (.slice d n a):=by rw[World.cell?_alloc_mark];rfl
 have A:Hid (Below w.heap.size w (w.alloc (.cells #[.slice d n a,.string z,.int .i64 p,.slice r y x] 25))/\Row (w.alloc (.cells #[.slice d n a,.string z,.int .i64 p,.slice r y x] 25)) 3 d n a (tokC ts)):=⟨qb _ _,C.out.below (qb _ _)⟩
 generalize w.alloc (.cells #[.slice d n a,.string z,.int .i64 p,.slice r y x] 25)=Z at c0 A ⊢;generalize w.heap.size=X at c0 ⊢;clear C;go_wp2
 go_loop [5] (fun v=>∃i:Nat,i<=k/\v=.int .i64 i/\Hid (∀j u,j<i->ts[j]?=some u->u.n≠s)) (fun v=>n - (intOf v).toNat)
 case atStart=>exact⟨0,Nat.zero_le _,rfl,(fun j u h=>absurd h (Nat.not_lt_zero _):∀j u,j<0->ts[j]?=some u->u.n≠s)⟩
 case round =>
  obtain⟨i,Y,rfl,J⟩:=hrel
  have H:i<n:=by omega
  obtain⟨u,M⟩:∃u,ts[i]?=some u:=⟨ts[i]'(by rw[O.out];exact H),List.getElem?_eq_getElem _⟩
  obtain⟨b,o,rfl,S,-,-⟩:=ja A.out.2 M;have D:Hid (ts[i]?=some u):=M;clear M
  by_cases c:u.n=s
  ·have E:=xh c
   have B:Hid (i=k↔¬hasN (ts.take k) s):=by
    constructor
    ·rintro rfl ⟨v,l,N⟩;obtain⟨j,g⟩:=List.getElem?_of_mem l;rw[List.getElem?_take]at g
     split at g
     ·exact J.out j v (by assumption) g N
     ·cases g
    ·intro K
     rcases Nat.lt_or_ge i k with h | h
     ·exact absurd ⟨u,List.mem_of_getElem? (i:=i) (by rw[List.getElem?_take,if_pos h];exact D.out),c⟩ K
     ·omega
   generalize u.n=un at S E;clear c;go_wp2;go_ret;exact⟨i,rfl,B.out,A.out.1⟩
  ·have E:=k9 c
   have U:i<k:=by
    rcases Nat.lt_or_ge i k with h | h
    ·exact h
    ·have:i=k:=by omega
     subst this;have:=D.out;rw[P.out.1]at this
     cases this
     exact absurd P.out.2 c
   have B:Hid (∀j u,j<i+1->ts[j]?=some u->u.n≠s):=fun j v g l=>by
    rcases Nat.lt_or_ge j i with h | h
    ·exact J.out j v h l
    ·have:j=i:=by omega
     subst this;rw[D.out]at l
     cases l
     exact c
   generalize u.n=un at S E;clear c;go_wp2
   go_round
   case rel=>exact⟨i+1,by omega,by simp,B⟩
   case measure=>simp[intOf];omega
def TopL (l:List Int) (m:Nat):Prop:=m<9/\(∀j,m<j->j<9->(l[j]?).getD 0=0)/\(m=0\/(l[m]?).getD 0≠0)
theorem qn2:TopL jl 0:=by
 refine⟨by omega,fun j b a=>?_,.inl rfl⟩
 match j,a with
 | 0,_=>rfl
 | 1,_=>rfl
 | 2,_=>rfl
 | 3,_=>rfl
 | 4,_=>rfl
 | 5,_=>rfl
 | 6,_=>rfl
 | 7,_=>rfl
 | 8,_=>rfl
theorem qdc(l:List Int)(m j:Nat)(a:Int)(h:m<l.length):((l.set m a)[j]?).getD 0=if j=m then a else (l[j]?).getD 0:=by
 rw[List.getElem?_set]
 by_cases b:m=j
 ·subst b;simp[h]
 ·rw[if_neg b,if_neg (by omega)]
theorem qpl{l:List Int}{m q:Nat}{a:Int}(h:TopL l m)(n:l.length=9)(o:q<9)(g:(q=0/\a=0)\/(1<=q/\a≠0)):TopL (l.set q a) (max m q):=by
 obtain⟨k,f,b⟩:=h;refine⟨by omega,fun j i c=>?_,?_⟩
 ·rw[qdc l q j a (by omega),if_neg (by omega)];exact f j (by omega) c
 ·by_cases d:m<=q
  ·rw[Nat.max_eq_right d]
   rcases g with ⟨h0,-⟩ | ⟨hq1,hane⟩
   ·exact .inl h0
   ·right;rw[qdc l q q a (by omega),if_pos rfl];exact hane
  ·rw[Nat.max_eq_left (by omega)]
   rcases b with b | b
   ·exact .inl b
   ·right;rw[qdc l q m a (by omega),if_neg (by omega)];exact b
theorem qn3{l:List Int}{m:Nat}(h:TopL l m):qaf l↔∀i,1<=i->i<=m->(l[i]?).getD 0≠0:=by
 obtain⟨s,g,a⟩:=h
 constructor
 ·intro n i b p
  rcases a with a | a
  ·omega
  ·have:∀d i,i+d=m->1<=i->(l[i]?).getD 0≠0:=by
    intro d
    induction d with
    | zero=>intro i o _;rw[show i=m by omega];exact a
    | succ d ih =>
     intro i o r;have:=n (i+1) (by omega) (by omega) (ih (i+1) (by omega) (by omega))
     rwa [Nat.add_sub_cancel]at this
   exact this (m - i) i (by omega) b
 ·intro j k q c f
  rcases Nat.lt_or_ge m k with h | h
  ·exact absurd (g k h c) f
  ·exact j (k - 1) (by omega) (by omega)
structure RM (ts:List Tk) (w wr:World) (k m:Nat) (l:List Int):Prop where
 lev:levF (ts.take k)=some l
 top:TopL l m
 names:kl ts k
 zero:(l[0]?).getD 0=0
 arr:wr.heap[w.heap.size]?=some (.cells (ar9 l) 87 (0,0))
 bel:Below w.heap.size w wr
theorem RM.step{ts:List Tk}{w wr a:World}{k m:Nat}{l:List Int}(h:RM ts w wr k m l)(b:Below wr.heap.size wr a):RM ts w a k m l :=
 ⟨h.lev,h.top,h.names,h.zero,qf b h.arr,qd h.bel b⟩
theorem RM.cell{ts:List Tk}{w wr:World}{k m:Nat}{l:List Int}(h:RM ts w wr k m l){q:Nat}(a:q<9):wr.cell? ⟨w.heap.size,q,none⟩=some (.int .i64 ((l[q]?).getD 0)):=by
 rw[qe h.arr];exact qf7 (yj h.lev) a
theorem RM.put{ts:List Tk}{w wr:World}{k b m q:Nat}{l:List Int}{a:Int}(h:RM ts w wr k m l)(f:levF (ts.take b)=some (l.set q a))(g:kl ts b)(d:q<9)(c:(q=0/\a=0)\/(1<=q/\a≠0)):RM ts w (wr.setCell ⟨w.heap.size,q,none⟩ (.int .i64 a)) b (max m q) (l.set q a):=by
 refine⟨f,qpl h.top (yj h.lev) d c,g,?_,?_,h.bel.setCell (p:=⟨w.heap.size,q,none⟩) (Nat.le_refl _) _⟩
 ·rw[qdc l q 0 a (by rw[yj h.lev];exact d)]
  split
  ·rcases c with h1 | h1
   ·exact h1.2
   ·omega
  ·exact h.zero
 rw[setCell_eq_setRow wr w.heap.size q _ 87 (0,0) _ h.arr,ql2];exact setRow_heap _ _ _ _ 87 _ h.arr
theorem qz{w:World}{a p:Addr}{v u:Value}(h:w.cell? a=some v)(b:a.block≠p.block):(w.setCell p u).cell? a=some v:=by
 rw[<-h]
 unfold World.cell?
 rw[Below.heap_setCell _ _ _ _ b]
theorem qn4(n:ByteArray)(l a:Int):(¬LevP ⟨n,l,a⟩/\(l<0\/(8<l)\/(l=0/\a≠0)\/(1<=l/\l<=8/\a<1)\/(1<=l/\l<=8/\3<a)))\/(LevP ⟨n,l,a⟩/\((l=0/\a=0)\/(1<=l/\l<=8/\1<=a/\a<=3))):=by
 unfold LevP;simp only;omega
theorem qm3:qju 28:=by
 intro G h w r hG hp;obtain⟨ts,g,E,rs⟩:=G;obtain⟨ta,tc,Y,Z⟩:=h;have HP:Hid (r=true↔MayP ⟨ts,g,E,rs⟩):=hp
 have g0:ts.length<=tc/\tc<=9223372036854775807:=by have h1:=hG.tok.le;have h2:=hG.tok.max;simp only at h1 h2;unfold maxLen at h2;omega
 have d8:=kj hG.rul;simp only at d8;have g7:ts.length<=100:=hG.small.nt;have g8:rs.length<=200:=hG.small.nr;have HG:Hid (IsG w ⟨ta,tc,Y,Z⟩ ⟨ts,g,E,rs⟩):=hG
 have N:Hid (∀W:World,Calls Tryz.prog 53 #[.string g] W fun e w'=>e=.returned (.bool (nameOk (by8 g)))/\w'=W):=fun W=>yi g W (by have:=hG.small.st;simp only at this;omega)
 unfold gv;simp only;clear hG hp
 obtain⟨D,U⟩:∃n,Hid (ts.length=n):=⟨_,rfl⟩
 obtain⟨H,S⟩:∃n,Hid (rs.length=n):=⟨_,rfl⟩
 rw[U.out]at g0 g7 ⊢;rw[S.out]at d8 g8 ⊢;obtain⟨x,I⟩:=zr (¬(D<=40/\H<=100/\0<=E/\E<=9999/\kn g));have HX:Hid (x=true↔¬(D<=40/\H<=100/\0<=E/\E<=9999/\kn g)):=I;clear I;go_enter Tryz.func28,Tryz.ntmps28
 go_upto_region 1 with fail
 have c0:(w.alloc (.cells #[.slice ta D tc,.string g,.int .i64 E,.slice Y H Z] 25)).cell? ⟨w.heap.size,0,none⟩=some (.slice ta D tc):=by rw[World.cell?_alloc_mark];rfl
 have c1:(w.alloc (.cells #[.slice ta D tc,.string g,.int .i64 E,.slice Y H Z] 25)).cell? ⟨w.heap.size,1,none⟩=some (.string g):=by rw[World.cell?_alloc_mark];rfl
 have c2:(w.alloc (.cells #[.slice ta D tc,.string g,.int .i64 E,.slice Y H Z] 25)).cell? ⟨w.heap.size,2,none⟩=some (.int .i64 E):=by rw[World.cell?_alloc_mark];rfl
 have c3:(w.alloc (.cells #[.slice ta D tc,.string g,.int .i64 E,.slice Y H Z] 25)).cell? ⟨w.heap.size,3,none⟩=some (.slice Y H Z):=by rw[World.cell?_alloc_mark];rfl
 have HB:Hid (Below w.heap.size w (w.alloc (.cells #[.slice ta D tc,.string g,.int .i64 E,.slice Y H Z] 25))/\IsG (w.alloc (.cells #[.slice ta D tc,.string g,.int .i64 E,.slice Y H Z] 25)) ⟨ta,tc,Y,Z⟩ ⟨ts,g,E,rs⟩):=⟨qb _ _,HG.out.below (qb _ _)⟩
 generalize w.alloc (.cells #[.slice ta D tc,.string g,.int .i64 E,.slice Y H Z] 25)=K at c0 c1 c2 c3 HB ⊢;generalize w.heap.size=gb at c0 c1 c2 c3 ⊢;clear HG
 go_cut [41] (fun s wd=>s=.bool x/\wd=K)
 case first =>
  by_cases h6:40<D
  ·have a:Hid (x=true):=ky HX.out (by omega)
   have d5:(40:Int)<(D:Int):=by omega
   go_wp2_with fail;go_meet;exact⟨by rw[a.out],rfl⟩
  have d5:¬(40:Int)<(D:Int):=by omega
  by_cases h5:100<H
  ·have a:Hid (x=true):=ky HX.out (by omega)
   have c4:(100:Int)<(H:Int):=by omega
   go_wp2_with fail;go_meet;exact⟨by rw[a.out],rfl⟩
  have c4:¬(100:Int)<(H:Int):=by omega
  by_cases h7:E<0
  ·have a:Hid (x=true):=ky HX.out (by omega);go_wp2_with fail;go_meet;exact⟨by rw[a.out],rfl⟩
  by_cases h8:9999<E
  ·have a:Hid (x=true):=ky HX.out (by omega);go_wp2_with fail;go_meet;exact⟨by rw[a.out],rfl⟩
  have d:(kn g/\(g.toList == [])=true)\/(kn g/\(g.toList == [])=false/\nameOk (by8 g)=true)\/(¬kn g/\(g.toList == [])=false/\nameOk (by8 g)=false):=by
   unfold kn zp;rw[<-zo]
   cases (g.toList == []) <;> cases nameOk (by8 g) <;> simp
  rcases d with ⟨d,hs3⟩ | ⟨d,hs3,hs4⟩ | ⟨d,hs3,hs4⟩
  ·have a:Hid (x=false):=zb HX.out (fun h=>h ⟨by omega,by omega,by omega,by omega,d⟩);clear d;go_wp2_with fail;go_meet;exact⟨by rw[a.out],rfl⟩
  ·have a:Hid (x=false):=zb HX.out (fun h=>h ⟨by omega,by omega,by omega,by omega,d⟩);rw[hs4]at N;clear d;go_wp2_with(go_at_call 53;refine(N.out _).mono ?_;rintro e w1 ⟨rfl,rfl⟩)
   go_meet;exact⟨by rw[a.out],rfl⟩
  ·have a:Hid (x=true):=ky HX.out (fun h=>d h.2.2.2.2);rw[hs4]at N;clear d;go_wp2_with(go_at_call 53;refine(N.out _).mono ?_;rintro e w1 ⟨rfl,rfl⟩)
   go_meet;exact⟨by rw[a.out],rfl⟩
 case rest =>
  obtain⟨rfl,f2⟩:=hcut;subst wc
  cases x
  rotate_left
  ·have a:Hid (r=false):=zb HP.out (fun h=>HX.out.1 rfl ⟨by rw[<-U.out];exact h.nt,by rw[<-S.out];exact h.nr,h.e0,h.e1,h.st⟩)
   go_wp2_with fail;go_ret;exact⟨by rw[a.out];rfl,HB.out.1⟩
  ·have a3:Hid (r=true↔TokP ts/\∀r∈rs,xq r):=by
    have hc:D<=40/\H<=100/\0<=E/\E<=9999/\kn g:=by
     rcases Classical.em (D<=40/\H<=100/\0<=E/\E<=9999/\kn g) with h | h
     ·exact h
     ·have:=HX.out.2 h;cases this
    exact HP.out.trans ⟨fun h=>⟨h.tk,h.rl⟩,fun h=>⟨by simp only;rw[U.out];exact hc.1,by simp only;rw[S.out];exact hc.2.1,hc.2.2.1,hc.2.2.2.1,hc.2.2.2.2,h.1,h.2⟩⟩
   have C0:Hid (∀W:World,Below K.heap.size K W->W.cell? ⟨gb,0,none⟩=some (.slice ta D tc)):=fun W hW=>qj hW c0
   have C1:Hid (∀W:World,Below K.heap.size K W->W.cell? ⟨gb,1,none⟩=some (.string g)):=fun W hW=>qj hW c1
   have C2:Hid (∀W:World,Below K.heap.size K W->W.cell? ⟨gb,2,none⟩=some (.int .i64 E)):=fun W hW=>qj hW c2
   have C3:Hid (∀W:World,Below K.heap.size K W->W.cell? ⟨gb,3,none⟩=some (.slice Y H Z)):=fun W hW=>qj hW c3
   clear HP HX N c0 c1 c2 c3
   go_upto_block 0 with fail
   go_cut [4] (fun s4 wd=>∃m:Nat,s4=.int .i64 m/\Hid (∃l,RM ts K wd D m l))
   case first =>
    go_wp2_with fail
    go_loopg [4,5] D (fun kx s4 s5 wr=>∃k m:Nat,s4=.int .i64 m/\s5=.int .i64 k/\k<=D/\m<=8/\D - k<=kx/\Hid (∃l,RM ts K wr k m l))
    case atStart=>exact⟨0,0,rfl,rfl,Nat.zero_le _,Nat.zero_le _,by omega,(⟨jl,rfl,qn2,kl.zero ts,rfl,heap_alloc_new _ _,qb _ _⟩:∃l,RM ts K _ 0 0 l)⟩
    case round =>
     obtain⟨k,m,rfl,rfl,hk,d9,hg,J⟩:=hrel;obtain⟨l,JJ⟩:=J.out;have JM:Hid (RM ts K wr k m l):=JJ;clear J JJ;have c0:=C0.out wr JM.out.bel
     by_cases a5:k<D
     ·obtain⟨t,ht⟩:∃t,ts[k]?=some t:=⟨ts[k]'(by rw[U.out];exact a5),List.getElem?_eq_getElem _⟩
      have f:=HB.out.2.tok.below JM.out.bel;simp only at f;obtain⟨b,o,g9,p0,p1,p2⟩:=ja f ht;subst g9;have T:Hid (ts[k]?=some t):=ht;have a8:=HB.out.2.small.tk t (List.mem_of_getElem? ht);obtain⟨q,c,A⟩:=t;simp only at p0 p1 p2 a8;clear ht f
      go_upto_region 9 with fail
      have HQ:Hid (RM ts K (wr.alloc (.cells #[.string q,.int .i64 c,.int .i64 A] 58)) k m l):=JM.out.step (qb _ _)
      have d0:(wr.alloc (.cells #[.string q,.int .i64 c,.int .i64 A] 58)).cell? ⟨wr.heap.size,0,none⟩=some (.string q):=by rw[World.cell?_alloc_mark];rfl
      have d1:(wr.alloc (.cells #[.string q,.int .i64 c,.int .i64 A] 58)).cell? ⟨wr.heap.size,1,none⟩=some (.int .i64 c):=by rw[World.cell?_alloc_mark];rfl
      have d2:(wr.alloc (.cells #[.string q,.int .i64 c,.int .i64 A] 58)).cell? ⟨wr.heap.size,2,none⟩=some (.int .i64 A):=by rw[World.cell?_alloc_mark];rfl
      generalize wr.alloc (.cells #[.string q,.int .i64 c,.int .i64 A] 58)=wq at HQ d0 d1 d2 ⊢;have d3:Hid (K.heap.size<wr.heap.size):=(Array.getElem?_eq_some_iff.1 JM.out.arr).1;generalize wr.heap.size=tb at d0 d1 d2 d3 ⊢;clear p0 p1 p2 JM c0;have c0:=C0.out wq HQ.out.bel;have c1:=C1.out wq HQ.out.bel;have c2:=C2.out wq HQ.out.bel;have c3:=C3.out wq HQ.out.bel;obtain⟨y,hy⟩:=zr (¬(zp q/\¬hasN (ts.take k) q/\LevP ⟨q,c,A⟩));have P:Hid (y=true↔¬(zp q/\¬hasN (ts.take k) q/\LevP ⟨q,c,A⟩)):=hy;clear hy
      have H1:Hid (∀W:World,Calls Tryz.prog 53 #[.string q] W fun e w'=>e=.returned (.bool (nameOk (by8 q)))/\w'=W):=fun W=>yi q W (by omega)
      have H2:Hid (Calls Tryz.prog 54 #[.agg #[.slice (some ⟨b,o,none⟩) D tc,.string g,.int .i64 E,.slice Y H Z],.string q] wq fun e w'=>∃m:Nat,e=.returned (.int .i64 m)/\(m=k↔¬hasN (ts.take k) q)/\Below wq.heap.size wq w'):=by
       have:=qj0 ⟨ts,g,E,rs⟩ ⟨some ⟨b,o,none⟩,tc,Y,Z⟩ wq (HB.out.2.below HQ.out.bel) q k ⟨q,c,A⟩ T.out rfl;unfold gv at this;simp only at this
       rwa [U.out,S.out]at this
      go_cut [100] from 42 to 128 (fun s wd=>s=.bool y/\Hid (Below wq.heap.size wq wd))
      case first =>
       cases a7:nameOk (by8 q)
       ·have a:Hid (y=true):=ky P.out (fun h=>by have:=h.1;unfold zp at this;rw[a7]at this;cases this)
        rw[a7]at H1;clear H2 a7;go_wp2_with(go_at_call 53;refine(H1.out _).mono ?_;rintro e w1 ⟨rfl,rfl⟩)
        go_meet;exact⟨by rw[a.out],Below.refl _ _⟩
       ·rw[a7]at H1;go_wp2_with(go_at_call 53;refine(H1.out _).mono ?_;rintro e w1 ⟨rfl,rfl⟩)
        refine H2.out.mono ?_;rintro e w2 ⟨mk,rfl,f0,hB⟩;have B:Hid (Below w1.heap.size w1 w2):=hB;have c8:Hid (mk=k↔¬hasN (ts.take k) q):=f0;have d1:=qj hB d1;have d2:=qj hB d2;clear hB f0 H1 H2 c0 c1 c2 c3 d0
        by_cases L:mk=k
        ·have f9:((mk:Int) != (k:Int))=false:=by simp[L]
         rcases qn4 q c A with ⟨hno,R⟩ | ⟨hyes,R⟩
         ·have a:Hid (y=true):=ky P.out (fun h=>hno h.2.2);clear hno L
          rcases R with R | R | ⟨R,ha⟩ | ⟨R,hl2,ha⟩ | ⟨R,hl2,ha⟩
          ·go_wp2_with fail;go_meet;exact⟨by rw[a.out],B.out⟩
          ·go_wp2_with fail;go_meet;exact⟨by rw[a.out],B.out⟩
          ·have b3:(c == 0)=true:=by simpa using R
           have f7:(A != 0)=true:=by simpa using ha
           go_wp2_with fail;go_meet;exact⟨by rw[a.out],B.out⟩
          ·have b3:(c == 0)=false:=by simp;omega
           go_wp2_with fail;go_meet;exact⟨by rw[a.out],B.out⟩
          ·have b3:(c == 0)=false:=by simp;omega
           go_wp2_with fail;go_meet;exact⟨by rw[a.out],B.out⟩
         ·have a:Hid (y=false):=zb P.out (fun h=>h ⟨a7,c8.out.1 L,hyes⟩);clear hyes L
          rcases R with ⟨R,ha⟩ | ⟨R,hl2,ha,ha2⟩
          ·have b3:(c == 0)=true:=by simpa using R
           have f7:(A != 0)=false:=by simpa using ha
           go_wp2_with fail;go_meet;exact⟨by rw[a.out],B.out⟩
          ·have b3:(c == 0)=false:=by simp;omega
           go_wp2_with fail;go_meet;exact⟨by rw[a.out];simp;omega,B.out⟩
        ·have f9:((mk:Int) != (k:Int))=true:=by simp;omega
         have a:Hid (y=true):=ky P.out (fun h=>L (c8.out.2 h.2.1));clear L;go_wp2_with fail;go_meet;exact⟨by rw[a.out],B.out⟩
      case rest =>
       obtain⟨rfl,B⟩:=hcut;have O:Hid (RM ts K wc k m l):=HQ.out.step B.out;have d1:=qj B.out d1;have d2:=qj B.out d2;clear H1 H2 c0 c1 c2 c3 d0 HQ B
       cases y
       rotate_left
       ·have a:Hid (r=false):=zb a3.out (fun h=>P.out.1 rfl ⟨(h.1.1 k _ T.out).1,fun hh=>qnv T.out hh h.1,by
         obtain⟨l',a4,-⟩:=h.1.2
         rcases Classical.em (LevP ⟨q,c,A⟩) with h1 | h1
         ·exact h1
         ·have:=qc8 (ts:=ts) (k:=k+1) (by rw[zn T.out,qcd,O.out.lev];unfold levS;simp[h1])
          rw[this]at a4;cases a4⟩)
        have M:Hid (Below w.heap.size w wc):=qd HB.out.1 O.out.bel;clear P;go_wp2_with fail;go_ret;exact⟨by rw[a.out];rfl,M.out⟩
       ·have HL:Hid (zp q/\¬hasN (ts.take k) q/\LevP ⟨q,c,A⟩):=by
         rcases Classical.em (zp q/\¬hasN (ts.take k) q/\LevP ⟨q,c,A⟩) with h | h
         ·exact h
         ·have:=P.out.2 h;cases this
        have f5:Hid (kl ts (k+1)):=O.out.names.succ T.out HL.out.1 HL.out.2.1;clear P
        have i1:0<=c/\c<9:=by
         have:=HL.out.2.2;unfold LevP at this;simp only at this;omega
        have f1:c.toNat<9:=by omega
        have b4:Hid ((c.toNat=0/\A=0)\/(1<=c.toNat/\A≠0)):=by
         have:=HL.out.2.2;unfold LevP at this;simp only at this;show _\/_;omega
        have a2:Hid (levF (ts.take (k+1))=if (l[c.toNat]?).getD 0=0\/(l[c.toNat]?).getD 0=A then some (l.set c.toNat A) else none):=by
         show _=_;rw[zn T.out,qcd,O.out.lev];unfold levS at9;simp[HL.out.2.2]
        have HZ:Hid (c<=0->(l[c.toNat]?).getD 0=0\/(l[c.toNat]?).getD 0=A):=fun h=>by
         have h0:c.toNat=0:=by omega
         have:=O.out.zero;rw[h0];exact .inl this
        have I:=O.out.cell f1;obtain⟨z,hz⟩:=zr (¬((l[c.toNat]?).getD 0=0\/(l[c.toNat]?).getD 0=A));have Q:Hid (z=true↔¬((l[c.toNat]?).getD 0=0\/(l[c.toNat]?).getD 0=A)):=hz;generalize (l[c.toNat]?).getD 0=x at I a2 HZ Q;clear hz f1;have g1:=kh d1;have g2:=kh d2;have gx:=kh I
        obtain⟨wy,i6⟩:∃wy,wy=wc:=⟨_,rfl⟩
        subst wc
        go_upto_region 11 with fail
        go_cut [119] from 42 to 128 (fun s wd=>s=.bool z/\Hid (Below wy.heap.size wy wd))
        case first =>
         have b8:Hid (∀n os,Below wy.heap.size wy (onto wy n os)):=fun n os=>ke wy n os
         by_cases g4:c<=0
         ·have a:Hid (z=false):=zb Q.out (fun h=>h (HZ.out g4))
          have g5:¬0<c:=by omega
          refine zv (by kernel_rfl) ?_
          repeat (go_big_quiet_step (fail))
          refine wpQuiet_nil ?_;intro _ b0;obtain⟨⟨nq,f3⟩,a9⟩:=b0;subst a9;go_wp2_with fail;go_meet;exact⟨by rw[a.out],b8.out _ _⟩
         ·have g5:0<c:=by omega
          by_cases C:x=0
          ·have a:Hid (z=false):=zb Q.out (fun h=>h (.inl C))
           have c6:(x != 0)=false:=by simpa using C
           clear C;refine zv (by kernel_rfl) ?_
           repeat (go_big_quiet_step (fail))
           refine wpQuiet_nil ?_;intro _ b0;obtain⟨⟨nq,f3⟩,a9⟩:=b0;subst a9;go_wp2_with fail;go_meet;exact⟨by rw[a.out],b8.out _ _⟩
          ·have c6:(x != 0)=true:=by simpa using C
           have a:Hid (z=(x != A)):=by
            show _=_;rw[Bool.eq_iff_iff,Q.out];simp[C]
           clear C;refine zv (by kernel_rfl) ?_
           repeat (go_big_quiet_step (fail))
           refine wpQuiet_nil ?_;intro _ b0;obtain⟨⟨nq,f3⟩,a9⟩:=b0;subst a9;go_wp2_with fail;go_meet;exact⟨by rw[a.out],b8.out _ _⟩
        case rest =>
         obtain⟨rfl,a1⟩:=hcut;have b7:Hid (RM ts K wc k m l):=O.out.step a1.out;have d1:=qj a1.out d1;have d2:=qj a1.out d2;have I:=qj a1.out I;clear g1 g2 gx a1 O
         cases z
         rotate_left
         ·have a:Hid (r=false):=zb a3.out (fun h=>by
           obtain⟨l',a4,-⟩:=h.1.2;have:=qc8 (ts:=ts) (k:=k+1) (by rw[a2.out,if_neg (Q.out.1 rfl)])
           rw[this]at a4;cases a4)
          have M:Hid (Below w.heap.size w wc):=qd HB.out.1 b7.out.bel;clear a2 Q HZ HL b4;go_wp2_with fail;go_ret;exact⟨by rw[a.out];rfl,M.out⟩
         ·have c7:Hid (levF (ts.take (k+1))=some (l.set c.toNat A)):=by
           have hc:x=0\/x=A:=by
            rcases Classical.em (x=0\/x=A) with h | h
            ·exact h
            ·have:=Q.out.2 h;cases this
           have:=a2.out
           rwa [if_pos hc]at this
          have fx:wc.frozen? ⟨K.heap.size,c.toNat,none⟩=false:=qi b7.out.arr _;have HM:Hid (RM ts K (wc.setCell ⟨K.heap.size,c.toNat,none⟩ (.int .i64 A)) (k+1) (max m c.toNat) (l.set c.toNat A)):=b7.out.put c7.out f5.out (by omega) b4.out;have d1:=qz d1 (p:=⟨K.heap.size,c.toNat,none⟩) (u:=.int .i64 A) (by have:=d3.out;simp only;omega)
          clear a2 Q HZ HL b4 c7
          have g3:max m c.toNat<=8:=by omega
          go_wp2_with fail;go_roundg (D - (k+1))
          case measure=>omega
          case rel=>exact⟨k+1,max m c.toNat,by congr 1;omega,by simp,by omega,g3,Nat.le_refl _,(⟨_,HM.out⟩:∃l,RM ts K _ (k+1) _ l)⟩
     ·obtain rfl:k=D:=by omega
      go_wp2;go_meet;exact⟨m,rfl,⟨l,JM.out⟩⟩
   case rest =>
    obtain⟨m,rfl,HC⟩:=hcut;obtain⟨l,V⟩:=HC.out;have HM:Hid (RM ts K wc D m l):=V
    have d9:m<=8:=by have:=V.top.1;omega
    have b5:Hid (levF ts=some l):=by have:=V.lev;rwa [<-U.out,List.take_length]at this
    have N:Hid (∀(i:Nat) (t:Tk),ts[i]?=some t->zp t.n/\∀(j:Nat) (u:Tk),j<i->ts[j]?=some u->u.n≠t.n):=kl.all (by rw[U.out];exact V.names)
    have b9:Hid (TokP ts↔∀i,1<=i->i<=m->(l[i]?).getD 0≠0):=by
     rw[<-qn3 V.top];exact⟨fun h=>by obtain⟨l',h1,h2⟩:=h.2;rw[b5.out]at h1;cases h1;exact h2,fun h=>⟨N.out,l,b5.out,h⟩⟩
    have b1:Hid (Below w.heap.size w wc):=qd HB.out.1 V.bel;clear HC V b5 N
    obtain⟨wa,i5⟩:∃wa,wa=wc:=⟨_,rfl⟩
    subst wc
    go_upto_block 2 with fail
    go_cut [7] (fun s7 wd=>wd=wa/\Hid (TokP ts))
    case first =>
     go_wp2_with fail
     go_loop [7] (fun v=>∃i:Nat,1<=i/\i<=m+1/\v=.int .i64 i/\Hid (∀j,1<=j->j<i->(l[j]?).getD 0≠0)) (fun v=>m+1 - (intOf v).toNat)
     case atStart=>exact⟨1,Nat.le_refl _,by omega,rfl,(fun j h1 h2=>by omega:∀j,1<=j->j<1->(l[j]?).getD 0≠0)⟩
     case round =>
      obtain⟨i,f8,h9,rfl,J⟩:=hrel
      by_cases a5:i<=m
      ·have I:=HM.out.cell (show i<9 by omega)
       have JN:Hid ((l[i]?).getD 0≠0->∀j,1<=j->j<i+1->(l[j]?).getD 0≠0):=fun h j h1 h2=>by
        rcases Nat.lt_or_ge j i with h3 | h3
        ·exact J.out j h1 h3
        ·rw[show j=i by omega];exact h
       have JY:Hid ((l[i]?).getD 0=0->¬TokP ts):=fun h ht=>b9.out.1 ht i f8 a5 h
       generalize (l[i]?).getD 0=x at I JN JY;clear J
       by_cases C:x=0
       ·have c6:(x == 0)=true:=by simpa using C
        have a:Hid (r=false):=zb a3.out (fun h=>JY.out C h.1);clear JN JY C;go_wp2_with fail;go_ret;exact⟨by rw[a.out];rfl,b1.out⟩
       ·have c6:(x == 0)=false:=by simpa using C
        have f6:Hid (∀j,1<=j->j<i+1->(l[j]?).getD 0≠0):=JN.out C;clear JN JY C;go_wp2_with fail
        go_round
        case rel=>exact⟨i+1,by omega,by omega,by simp,f6⟩
        case measure=>simp[intOf];omega
      ·have T:Hid (TokP ts):=b9.out.2 (fun j h1 h2=>J.out j h1 (by omega));clear J;go_wp2_with fail;go_meet;exact⟨rfl,T⟩
    case rest =>
     obtain⟨f2,T⟩:=hcut;subst wc;have b6:Hid (r=true↔∀r∈rs,xq r):=a3.out.trans ⟨fun h=>h.2,fun h=>⟨T.out,h⟩⟩
     have HR:Hid (ks wa Y H Z rs):=by have:=HB.out.2.rul.below HM.out.bel;simp only at this;rwa [S.out]at this
     have f4:Hid (∀W:World,Below wa.heap.size wa W->W.cell? ⟨gb,3,none⟩=some (.slice Y H Z)):=fun W hW=>qj hW (C3.out wa HM.out.bel)
     have HS:Hid (∀r∈rs,r.l.size<=100/\r.p.size<=100/\r.r.length<=100/\∀x∈r.r,x.size<=100):=HB.out.2.small.rl;clear a3 T b9 HM C0 C1 C2 C3 HB d9;go_wp2_with fail
     go_loopg [8] H (fun kx s8 wr=>∃k:Nat,s8=.int .i64 k/\k<=H/\H - k<=kx/\Hid (Below wa.heap.size wa wr/\∀i x,i<k->rs[i]?=some x->xq x))
     case atStart=>exact⟨0,rfl,Nat.zero_le _,by omega,(⟨Below.refl _ _,fun i x h=>absurd h (Nat.not_lt_zero _)⟩:Below wa.heap.size wa _/\∀i x,i<0->rs[i]?=some x->xq x)⟩
     case round =>
      obtain⟨k,rfl,hk,hg,J⟩:=hrel;have c3:=f4.out wr J.out.1
      by_cases a5:k<H
      ·obtain⟨x,I⟩:∃x,rs[k]?=some x:=⟨rs[k]'(by rw[S.out];exact a5),List.getElem?_eq_getElem _⟩
       obtain⟨b,o,xa,xc,g6,p0,p1,p2,f⟩:=(HR.out.below J.out.1).at I;subst g6;have T:Hid (rs[k]?=some x):=I;have a8:=HS.out x (List.mem_of_getElem? I);obtain⟨X,nr,F⟩:=x;simp only at p0 p1 p2 f a8
       obtain⟨n,HN⟩:∃n,Hid (nr.length=n):=⟨_,rfl⟩
       rw[HN.out]at p1 f a8;have i0:=f.le
       have i2:xc<=9223372036854775807:=by have:=f.max;unfold maxLen at this;omega
       have c9:Hid (Row wr 1 xa n xc (strC nr)):=f;clear I f
       go_upto_region 24 with fail
       have d0:(wr.alloc (.cells #[.string X,.slice xa n xc,.string F] 55)).cell? ⟨wr.heap.size,0,none⟩=some (.string X):=by rw[World.cell?_alloc_mark];rfl
       have d1:(wr.alloc (.cells #[.string X,.slice xa n xc,.string F] 55)).cell? ⟨wr.heap.size,1,none⟩=some (.slice xa n xc):=by rw[World.cell?_alloc_mark];rfl
       have d2:(wr.alloc (.cells #[.string X,.slice xa n xc,.string F] 55)).cell? ⟨wr.heap.size,2,none⟩=some (.string F):=by rw[World.cell?_alloc_mark];rfl
       have HQ:Hid (Row (wr.alloc (.cells #[.string X,.slice xa n xc,.string F] 55)) 1 xa n xc (strC nr)/\Below wa.heap.size wa (wr.alloc (.cells #[.string X,.slice xa n xc,.string F] 55))):=⟨c9.out.below (qb _ _),qd J.out.1 (qb _ _)⟩
       have HJ:Hid (∀i x,i<k->rs[i]?=some x->xq x):=J.out.2;generalize wr.alloc (.cells #[.string X,.slice xa n xc,.string F] 55)=wq at HQ d0 d1 d2 ⊢;generalize wr.heap.size=tb at d0 d1 d2 ⊢;clear p0 p1 p2 J c9 c3;obtain⟨y,hy⟩:=zr (¬(zp X/\n<=20/\kn F));have P:Hid (y=true↔¬(zp X/\n<=20/\kn F)):=hy;clear hy
       have H1:Hid (∀W:World,Calls Tryz.prog 53 #[.string X] W fun e w'=>e=.returned (.bool (nameOk (by8 X)))/\w'=W):=fun W=>yi X W (by omega)
       have H2:Hid (∀W:World,Calls Tryz.prog 53 #[.string F] W fun e w'=>e=.returned (.bool (nameOk (by8 F)))/\w'=W):=fun W=>yi F W (by omega)
       go_cut [170] from 138 to 184 (fun s wd=>s=.bool y/\wd=wq)
       case first =>
        cases a6:nameOk (by8 X)
        ·have a:Hid (y=true):=ky P.out (fun h=>by have:=h.1;unfold zp at this;rw[a6]at this;cases this)
         rw[a6]at H1;go_wp2_with fail;refine(H1.out _).mono ?_;rintro e w1 ⟨rfl,rfl⟩;go_wp2_with fail;go_meet;exact⟨by rw[a.out],rfl⟩
        ·rw[a6]at H1
         by_cases c5:n<=20
         ·have d4:¬(20:Int)<(n:Int):=by omega
          have d:(kn F/\(F.toList == [])=true)\/(kn F/\(F.toList == [])=false/\nameOk (by8 F)=true)\/(¬kn F/\(F.toList == [])=false/\nameOk (by8 F)=false):=by
           unfold kn zp;rw[<-zo]
           cases (F.toList == []) <;> cases nameOk (by8 F) <;> simp
          rcases d with ⟨d,hs3⟩ | ⟨d,hs3,hs4⟩ | ⟨d,hs3,hs4⟩
          ·have a:Hid (y=false):=zb P.out (fun h=>h ⟨a6,c5,d⟩);clear d;go_wp2_with fail;refine(H1.out _).mono ?_;rintro e w1 ⟨rfl,rfl⟩;go_wp2_with fail;go_meet;exact⟨by rw[a.out];simp;omega,rfl⟩
          ·have a:Hid (y=false):=zb P.out (fun h=>h ⟨a6,c5,d⟩);rw[hs4]at H2;clear d;go_wp2_with fail;refine(H1.out _).mono ?_;rintro e w1 ⟨rfl,rfl⟩;go_wp2_with fail;refine(H2.out _).mono ?_;rintro e w2 ⟨rfl,rfl⟩;go_wp2_with fail;go_meet;exact⟨by rw[a.out];simp;omega,rfl⟩
          ·have a:Hid (y=true):=ky P.out (fun h=>d h.2.2);rw[hs4]at H2;clear d;go_wp2_with fail;refine(H1.out _).mono ?_;rintro e w1 ⟨rfl,rfl⟩;go_wp2_with fail;refine(H2.out _).mono ?_;rintro e w2 ⟨rfl,rfl⟩;go_wp2_with fail;go_meet;exact⟨by rw[a.out],rfl⟩
         ·have d4:(20:Int)<(n:Int):=by omega
          have a:Hid (y=true):=ky P.out (fun h=>c5 h.2.1);go_wp2_with fail;refine(H1.out _).mono ?_;rintro e w1 ⟨rfl,rfl⟩;go_wp2_with fail;go_meet;exact⟨by rw[a.out],rfl⟩
       case rest =>
        obtain⟨rfl,f2⟩:=hcut;subst wc;clear H1 H2 d0 d2
        cases y
        rotate_left
        ·have a:Hid (r=false):=zb b6.out (fun h=>P.out.1 rfl (by have:=h _ (List.mem_of_getElem? T.out);unfold xq at this;simp only at this;rw[HN.out]at this;exact⟨this.1,this.2.1,this.2.2.1⟩))
         have M:Hid (Below w.heap.size w wq):=qd b1.out HQ.out.2;go_wp2_with fail;go_ret;exact⟨by rw[a.out];rfl,M.out⟩
        ·have HG:Hid (zp X/\n<=20/\kn F):=by
          rcases Classical.em (zp X/\n<=20/\kn F) with h | h
          ·exact h
          ·have:=P.out.2 h;cases this
         clear P;go_wp2_with fail
         go_loop [10] (fun v=>∃i:Nat,i<=n/\v=.int .i64 i/\Hid (∀j x,j<i->nr[j]?=some x->zp x)) (fun v=>n - (intOf v).toNat)
         case atStart=>exact⟨0,Nat.zero_le _,rfl,(fun j x h=>absurd h (Nat.not_lt_zero _):∀j x,j<0->nr[j]?=some x->zp x)⟩
         case round =>
          obtain⟨i,hi,rfl,J⟩:=hrel
          by_cases d7:i<n
          ·obtain⟨x,I⟩:∃x,nr[i]?=some x:=⟨nr[i]'(by rw[HN.out];exact d7),List.getElem?_eq_getElem _⟩
           obtain⟨b2,o2,h4,q0⟩:=jm HQ.out.1 I;subst h4;have HX:Hid (nr[i]?=some x):=I
           have H3:Hid (∀W:World,Calls Tryz.prog 53 #[.string x] W fun e w'=>e=.returned (.bool (nameOk (by8 x)))/\w'=W):=fun W=>yi x W (by have:=a8.2.2.2 x (List.mem_of_getElem? I);omega)
           clear I
           cases a0:nameOk (by8 x)
           ·rw[a0]at H3;have a:Hid (r=false):=zb b6.out (fun h=>by have:=(h _ (List.mem_of_getElem? T.out)).2.2.2 x (List.mem_of_getElem? HX.out);unfold zp at this;rw[a0]at this;cases this)
            have M:Hid (Below w.heap.size w wq):=qd b1.out HQ.out.2;clear a0;go_wp2_with(go_at_call 53;refine(H3.out _).mono ?_;rintro e w2 ⟨rfl,rfl⟩)
            go_ret;exact⟨by rw[a.out];rfl,M.out⟩
           ·rw[a0]at H3
            have a:Hid (∀j x,j<i+1->nr[j]?=some x->zp x):=fun j v hj hv=>by
             rcases Nat.lt_or_ge j i with h | h
             ·exact J.out j v h hv
             ·have:j=i:=by omega
              subst this;rw[HX.out]at hv
              cases hv
              exact a0
            clear a0;go_wp2_with(go_at_call 53;refine(H3.out _).mono ?_;rintro e w2 ⟨rfl,rfl⟩)
            go_round
            case rel=>exact⟨i+1,by omega,by simp,a⟩
            case measure=>simp[intOf];omega
          ·have a:Hid (∀i x,i<k+1->rs[i]?=some x->xq x):=fun j v hj hv=>by
            rcases Nat.lt_or_ge j k with h | h
            ·exact HJ.out j v h hv
            ·have:j=k:=by omega
             subst this;rw[T.out]at hv
             cases hv
             exact⟨HG.out.1,by simp only;rw[HN.out];exact HG.out.2.1,HG.out.2.2,fun x I=>by
              obtain⟨i',d6⟩:=List.getElem?_of_mem I;have R:i'<nr.length:=(List.getElem?_eq_some_iff.1 d6).1
              exact J.out i' x (by rw[HN.out]at R;omega) d6⟩
           go_wp2_with fail;go_roundg (H - (k+1))
           case measure=>omega
           case rel=>exact⟨k+1,by simp,by omega,Nat.le_refl _,(⟨HQ.out.2,a.out⟩:Below wa.heap.size wa _/\∀i x,i<k+1->rs[i]?=some x->xq x)⟩
      ·have a:Hid (r=true):=ky b6.out (fun x I=>by
        obtain⟨i,hi⟩:=List.getElem?_of_mem I;have R:i<rs.length:=(List.getElem?_eq_some_iff.1 hi).1
        exact J.out.2 i x (by rw[S.out]at R;omega) hi)
       have M:Hid (Below w.heap.size w wr):=qd b1.out J.out.1;go_wp2_with fail;go_ret;exact⟨by rw[a.out];rfl,M.out⟩
theorem qiy(w:World):Calls Tryz.prog 126 #[] w fun e a=>e=.returned (.bool true)/\Below w.heap.size w a:=by
 have H:Hid (Calls Tryz.prog 150 #[] w fun e a=>e=.returned (.bool true)/\Below w.heap.size w a):=qkz w;go_enter Tryz.func126,Tryz.ntmps126;go_wp2_with fail;refine H.out.mono ?_;rintro e w1 ⟨rfl,b⟩;go_wp2_with fail;go_ret;exact⟨rfl,b⟩
theorem nm1:zp bN/\zp bP/\zp bM/\zp bE:=by
 refine⟨?_,?_,?_,?_⟩ <;> (unfold zp;kernel_rfl)
theorem qj1:levF qu.ts=some [0,1,1,0,0,0,0,0,0]:=by
 unfold levF qu jl;simp only[List.foldl];have a:LevP ⟨bN,0,0⟩:=.inl ⟨rfl,rfl⟩;have b:LevP ⟨bP,1,1⟩:=.inr ⟨by decide,by decide,by decide,by decide⟩;have c:LevP ⟨bM,2,1⟩:=.inr ⟨by decide,by decide,by decide,by decide⟩;simp[levS,a,b,c,at9]
theorem qb4:MayP qu:=by
 obtain⟨l,m,h,d⟩:=nm1;refine⟨by decide,by decide,by decide,by decide,.inl rfl,⟨?_,_,qj1,?_⟩,?_⟩
 ·intro i t b
  match i,b with
  | 0,b=>cases b;exact⟨l,fun j u g=>absurd g (Nat.not_lt_zero _)⟩
  | 1,b =>
   cases b
   refine⟨m,fun j u g f=>?_⟩
   obtain rfl:j=0:=by omega
   cases f
   intro e;have:=congrArg by8 e;exact absurd this (by decide)
  | 2,b =>
   cases b
   refine⟨h,fun j u g f=>?_⟩
   match j,g,f with
   | 0,_,f=>cases f;intro e;have:=congrArg by8 e;exact absurd this (by decide)
   | 1,_,f=>cases f;intro e;have:=congrArg by8 e;exact absurd this (by decide)
  | i+3,b=>cases b
 ·intro k p o a
  match k,o,a with
  | 0,_,_=>omega
  | 1,_,_=>omega
  | 2,_,_=>decide
  | 3,_,a=>exact absurd rfl a
  | 4,_,a=>exact absurd rfl a
  | 5,_,a=>exact absurd rfl a
  | 6,_,a=>exact absurd rfl a
  | 7,_,a=>exact absurd rfl a
  | 8,_,a=>exact absurd rfl a
 ·intro r n;simp only[qu,List.mem_cons,List.not_mem_nil,or_false]at n
  rcases n with rfl | rfl | rfl
  ·refine⟨d,by decide,.inl rfl,fun x c=>?_⟩;simp only[List.mem_cons,List.not_mem_nil,or_false]at c
   rcases c with rfl | rfl | rfl
   ·exact d
   ·exact m
   ·exact d
  ·refine⟨d,by decide,.inl rfl,fun x c=>?_⟩;simp only[List.mem_cons,List.not_mem_nil,or_false]at c
   rcases c with rfl | rfl | rfl
   ·exact d
   ·exact h
   ·exact d
  ·refine⟨d,by decide,.inl rfl,fun x c=>?_⟩;rw[List.mem_singleton]at c;subst c;exact l
def sumsT:ByteArray:=⟨(tx (vr qu [0,1,1,0,0,0,0,0,0])).toArray⟩
theorem qn5:qmz qu sumsT:=⟨fun _ l a=>by rw[qj1]at a;cases a;rfl,fun h=>absurd qb4 h⟩
def badG:Gm:=⟨[],⟨#[49]⟩,0,[]⟩
theorem qq1:¬MayP badG:=fun h=>by
 rcases h.st with h1 | h1
 ·have:=congrArg by8 h1;exact absurd this (by decide)
 ·unfold zp at h1
  have a:nameOk (by8 badG.s)=false:=by kernel_rfl
  rw[a]at h1;cases h1
theorem qn6:Small badG:=⟨by decide,by decide,by decide,fun t h=>(by cases h),fun r h=>(by cases h)⟩
theorem qq2(w:World):IsG w ⟨none,0,none,0⟩ badG:=⟨⟨rfl,Nat.le_refl _,Nat.zero_le _,.inl ⟨rfl,rfl,rfl⟩⟩,⟨[],rfl,⟨rfl,Nat.le_refl _,Nat.zero_le _,.inl ⟨rfl,rfl,rfl⟩⟩,fun q h=>(by cases h)⟩,qn6⟩
def qgk:Gm:=⟨qu.ts,qu.s,qu.e,qu.rs.set 0 ⟨bE,[bE,bP,bE],bM⟩⟩
theorem qpm:qu≠qgk:=fun h=>by
 have a:(qu.rs.map fun r=>by8 r.p)=qgk.rs.map fun r=>by8 r.p:=by rw[h]
 exact absurd a (by decide)
theorem qk9:Small qgk:=by
 obtain⟨b,g,c,d,a⟩:=qan;refine⟨b,by decide,c,d,fun r f=>?_⟩
 rcases List.mem_or_eq_of_mem_set f with h | h
 ·exact a r h
 ·subst h;have:=a ⟨bE,[bE,bP,bE],e0⟩ (by simp[qu]);exact⟨this.1,by decide,this.2.2.1,this.2.2.2⟩
theorem qj2(w:World)(hp:Pow w):Calls Tryz.prog 111 #[] w fun e z=>e=.returned (.bool true)/\Below w.heap.size w z:=by
 have HP:Hid (Pow w):=hp
 have H1:Hid (∀W:World,Calls Tryz.prog 25 #[] W fun e z=>∃h qs,e=.returned (gv h qu)/\OwnG z W.heap.size h qu qs/\Below W.heap.size W z):=fun W=>qdb W
 clear hp;go_enter Tryz.func111,Tryz.ntmps111;go_wp2_with fail;refine(H1.out _).mono ?_;rintro e w1 ⟨⟨s,t,n,o⟩,qs,rfl,ho,a0⟩
 have J1:Hid (IsG w1 ⟨s,t,n,o⟩ qu/\Below w.heap.size w w1):=⟨ho.isG qan,a0⟩
 clear ho a0;have eg:gv ⟨s,t,n,o⟩ qu=.agg #[.slice s 3 t,.string ⟨#[]⟩,.int .i64 0,.slice n 3 o]:=rfl;rw[eg];go_wp2_with fail;refine(H1.out _).mono ?_;rintro e w2 ⟨⟨k,m,sa,f⟩,ps,rfl,y,a1⟩;have ek:gv ⟨k,m,sa,f⟩ qu=.agg #[.slice k 3 m,.string ⟨#[]⟩,.int .i64 0,.slice sa 3 f]:=rfl;rw[ek];have M:Below (w1.alloc (.cells #[.slice s 3 t,.string ⟨#[]⟩,.int .i64 0,.slice n 3 o] 25)).heap.size (w1.alloc (.cells #[.slice s 3 t,.string ⟨#[]⟩,.int .i64 0,.slice n 3 o] 25)) w2:=a1
 obtain⟨b,rfl⟩:∃b,sa=some ⟨b,0,none⟩:=by
  obtain⟨a,c,e,-,-,h⟩:=zh y.rul
  cases e
  rcases h with h | h
  ·exact absurd h.2.1 (by decide)
  ·exact h
 have b1:∃q,ps[0]?=some q:=by
  have:=congrArg List.length y.map;rw[List.length_map]at this;exact⟨ps[0]'(by rw[this];decide),List.getElem?_eq_getElem _⟩
 obtain⟨q,hq⟩:=b1
 have K:q.1=⟨bE,[bE,bP,bE],e0⟩:=by
  have:=congrArg (fun l=>l[0]?) y.map;simp only[List.getElem?_map,hq]at this;exact Option.some.inj this
 have Q:=World.ownsRow.lt y.rul b rfl;have R:=y.below (qb w2 (.cells #[.slice k 3 m,.string ⟨#[]⟩,.int .i64 0,.slice (some ⟨b,0,none⟩) 3 f] 25))
 have b4:3<=f/\f<=9223372036854775807:=by
  have h1:=(Row.of_own y.rul).le;have h2:=(Row.of_own y.rul).max;unfold maxLen at h2;have h3:qu.rs.length=3:=rfl;simp only at h1 h2;omega
 have a7:=R.setRule (g:=b) rfl (i:=0) (j:=2) hq (by omega) ⟨bE,[bE,bP,bE],bM⟩ (.string bM) (by rw[K]) (by rw[K];rfl)
 have P:=qpk (j:=2) (u:=.string e0) R.rul (by
  unfold rulC;have h3:=vp (fun q:Ru × Option Addr × Nat=>([.string q.1.l,.slice q.2.1 q.1.r.length q.2.2,.string q.1.p]:List Value)) (fun _=>rfl) ps 0 q 2 hq (by omega);rw[Nat.zero_mul,Nat.zero_add]at h3
  rw[h3,K];rfl)
 have O:Below (w1.heap.size+1) (w1.alloc (.cells #[.slice s 3 t,.string ⟨#[]⟩,.int .i64 0,.slice n 3 o] 25)) ((w2.alloc (.cells #[.slice k 3 m,.string ⟨#[]⟩,.int .i64 0,.slice (some ⟨b,0,none⟩) 3 f] 25)).setCell ⟨b,2,none⟩ (.string bM)):=by
  have h1:=qd M (qb w2 (.cells #[.slice k 3 m,.string ⟨#[]⟩,.int .i64 0,.slice (some ⟨b,0,none⟩) 3 f] 25));rw[qt]at h1;refine h1.setCell (p:=⟨b,2,none⟩) ?_ _;have:=Q.1;rw[qt]at this;exact this
 go_upto_region 3 with fail
 have d3:(w2.alloc (.cells #[.slice k 3 m,.string ⟨#[]⟩,.int .i64 0,.slice (some ⟨b,0,none⟩) 3 f] 25)).cell? ⟨w2.heap.size,3,none⟩=some (.slice (some ⟨b,0,none⟩) 3 f):=by rw[World.cell?_alloc_mark];rfl
 have c2:(w2.alloc (.cells #[.slice k 3 m,.string ⟨#[]⟩,.int .i64 0,.slice (some ⟨b,0,none⟩) 3 f] 25)).cell? ⟨b,2,none⟩=some (.string e0):=P.1;have f2:(w2.alloc (.cells #[.slice k 3 m,.string ⟨#[]⟩,.int .i64 0,.slice (some ⟨b,0,none⟩) 3 f] 25)).frozen? ⟨b,2,none⟩=false:=P.2
 have Z:Hid (∀j v,(w2.alloc (.cells #[.slice k 3 m,.string ⟨#[]⟩,.int .i64 0,.slice (some ⟨b,0,none⟩) 3 f] 25)).cell? ⟨w2.heap.size,j,none⟩=some v->((w2.alloc (.cells #[.slice k 3 m,.string ⟨#[]⟩,.int .i64 0,.slice (some ⟨b,0,none⟩) 3 f] 25)).setCell ⟨b,2,none⟩ (.string bM)).cell? ⟨w2.heap.size,j,none⟩=some v):=fun j v h=>qz h (by have:=Q.2;simp only;omega)
 have S:=Z.out 0 (.slice k 3 m) (by rw[World.cell?_alloc_mark];rfl)
 have T:=Z.out 1 (.string ⟨#[]⟩) (by rw[World.cell?_alloc_mark];rfl)
 have U:=Z.out 2 (.int .i64 0) (by rw[World.cell?_alloc_mark];rfl)
 have V:=Z.out 3 _ d3
 have B:Hid (∀j v,(w1.alloc (.cells #[.slice s 3 t,.string ⟨#[]⟩,.int .i64 0,.slice n 3 o] 25)).cell? ⟨w1.heap.size,j,none⟩=some v->((w2.alloc (.cells #[.slice k 3 m,.string ⟨#[]⟩,.int .i64 0,.slice (some ⟨b,0,none⟩) 3 f] 25)).setCell ⟨b,2,none⟩ (.string bM)).cell? ⟨w1.heap.size,j,none⟩=some v):=fun j v h=>by
  rw[<-h]
  unfold World.cell?
  rw[O.block w1.heap.size (by omega)]
 have D:=B.out 0 (.slice s 3 t) (by rw[World.cell?_alloc_mark];rfl)
 have E:=B.out 1 (.string ⟨#[]⟩) (by rw[World.cell?_alloc_mark];rfl)
 have F:=B.out 2 (.int .i64 0) (by rw[World.cell?_alloc_mark];rfl)
 have G:=B.out 3 (.slice n 3 o) (by rw[World.cell?_alloc_mark];rfl)
 have J:Below w1.heap.size w1 ((w2.alloc (.cells #[.slice k 3 m,.string ⟨#[]⟩,.int .i64 0,.slice (some ⟨b,0,none⟩) 3 f] 25)).setCell ⟨b,2,none⟩ (.string bM)):=(qb w1 _).trans (O.mono (by omega))
 have C:Hid (IsG ((w2.alloc (.cells #[.slice k 3 m,.string ⟨#[]⟩,.int .i64 0,.slice (some ⟨b,0,none⟩) 3 f] 25)).setCell ⟨b,2,none⟩ (.string bM)) ⟨s,t,n,o⟩ qu/\IsG ((w2.alloc (.cells #[.slice k 3 m,.string ⟨#[]⟩,.int .i64 0,.slice (some ⟨b,0,none⟩) 3 f] 25)).setCell ⟨b,2,none⟩ (.string bM)) ⟨k,m,some ⟨b,0,none⟩,f⟩ qgk/\Below w.heap.size w ((w2.alloc (.cells #[.slice k 3 m,.string ⟨#[]⟩,.int .i64 0,.slice (some ⟨b,0,none⟩) 3 f] 25)).setCell ⟨b,2,none⟩ (.string bM))/\Pow ((w2.alloc (.cells #[.slice k 3 m,.string ⟨#[]⟩,.int .i64 0,.slice (some ⟨b,0,none⟩) 3 f] 25)).setCell ⟨b,2,none⟩ (.string bM))) :=
  ⟨J1.out.1.below J,a7.isG qk9,qd J1.out.2 J,HP.out.below (qd J1.out.2 J)⟩
 clear a1 M y R a7 P O J Z B hq K Q J1 H1 HP ek eg
 go_upto_region 4 with fail
 clear d3 c2 f2;have b0:(.string bM:Value)=.string ⟨#[77]⟩:=rfl;rw[b0]at S T U V D E F G C;generalize (w2.alloc (.cells #[.slice k 3 m,.string ⟨#[]⟩,.int .i64 0,.slice (some ⟨b,0,none⟩) 3 f] 25)).setCell ⟨b,2,none⟩ (.string ⟨#[77]⟩)=d at S T U V D E F G C ⊢;generalize w1.heap.size=gb at D E F G ⊢;generalize w2.heap.size=hb at S T U V ⊢
 have a9:Hid (∀W:World,Below d.heap.size d W->W.cell? ⟨hb,0,none⟩=some (.slice k 3 m)/\W.cell? ⟨hb,1,none⟩=some (.string ⟨#[]⟩)/\W.cell? ⟨hb,2,none⟩=some (.int .i64 0)/\W.cell? ⟨hb,3,none⟩=some (.slice (some ⟨b,0,none⟩) 3 f)):=fun W x=>⟨qj x S,qj x T,qj x U,qj x V⟩
 have N:Hid (∀W:World,Below d.heap.size d W->W.cell? ⟨gb,0,none⟩=some (.slice s 3 t)/\W.cell? ⟨gb,1,none⟩=some (.string ⟨#[]⟩)/\W.cell? ⟨gb,2,none⟩=some (.int .i64 0)/\W.cell? ⟨gb,3,none⟩=some (.slice n 3 o)):=fun W x=>⟨qj x D,qj x E,qj x F,qj x G⟩
 have T1:Hid (Calls Tryz.prog 125 #[.agg #[.slice s 3 t,.string ⟨#[]⟩,.int .i64 0,.slice n 3 o]] d fun e z=>e=.returned (.string sumsT)/\Below d.heap.size d z):=qm2 qu ⟨s,t,n,o⟩ d sumsT C.out.1 C.out.2.2.2 qn5
 have M1:Hid (∀W:World,Below d.heap.size d W->Calls Tryz.prog 80 #[.agg #[.slice s 3 t,.string ⟨#[]⟩,.int .i64 0,.slice n 3 o]] W fun e z=>e=.returned (.bool true)/\Below W.heap.size W z):=fun W x=>qce qu ⟨s,t,n,o⟩ W true (C.out.1.below x) ⟨fun _=>qb4,fun _=>rfl⟩
 have M2:Hid (∀W:World,Calls Tryz.prog 80 #[.agg #[.slice none 0 0,.string ⟨#[49]⟩,.int .i64 0,.slice none 0 0]] W fun e z=>e=.returned (.bool false)/\Below W.heap.size W z):=fun W=>qce badG ⟨none,0,none,0⟩ W false (qq2 W) ⟨fun h=>(by cases h),fun h=>absurd h qq1⟩
 have E1:Hid (∀W:World,Below d.heap.size d W->Calls Tryz.prog 127 #[.agg #[.slice s 3 t,.string ⟨#[]⟩,.int .i64 0,.slice n 3 o],.agg #[.slice s 3 t,.string ⟨#[]⟩,.int .i64 0,.slice n 3 o]] W fun e z=>e=.returned (.bool true)/\Below W.heap.size W z):=fun W x=>qjv qu qu ⟨s,t,n,o⟩ ⟨s,t,n,o⟩ W true (C.out.1.below x) (C.out.1.below x) ⟨fun _=>rfl,fun _=>rfl⟩
 have E2:Hid (∀W:World,Below d.heap.size d W->Calls Tryz.prog 127 #[.agg #[.slice s 3 t,.string ⟨#[]⟩,.int .i64 0,.slice n 3 o],.agg #[.slice k 3 m,.string ⟨#[]⟩,.int .i64 0,.slice (some ⟨b,0,none⟩) 3 f]] W fun e z=>e=.returned (.bool false)/\Below W.heap.size W z):=fun W x=>qjv qu qgk ⟨s,t,n,o⟩ ⟨k,m,some ⟨b,0,none⟩,f⟩ W false (C.out.1.below x) (C.out.2.1.below x) ⟨fun h=>(by cases h),fun h=>absurd h qpm⟩
 have b2:(sumsT.toList == [37,116,111,107,101,110,32,78,32,80,32,77,10,37,108,101,102,116,32,80,10,37,108,101,102,116,32,77,10,37,37,10,101,32,58,32,101,32,80,32,101,32,59,10,101,32,58,32,101,32,77,32,101,32,59,10,101,32,58,32,78,32,59,10])=true:=by rw[xz];kernel_rfl
 have HW:Hid (Below w.heap.size w d):=C.out.2.2.1;generalize sumsT=sT at T1 b2;clear C S T U V;go_wp2_with fail;refine T1.out.mono ?_;rintro e w5 ⟨rfl,a2⟩;have X:Hid (Below d.heap.size d w5):=a2;clear a2 D E F G;go_wp2_with fail;refine(qiy _).mono ?_;rintro e w6 ⟨rfl,a3⟩;have H:Hid (Below d.heap.size d w6):=qd X.out a3;clear a3 X;obtain⟨D,E,F,G⟩:=N.out _ H.out;go_wp2_with fail;refine(M1.out _ H.out).mono ?_;rintro e w7 ⟨rfl,a4⟩;have Y:Hid (Below d.heap.size d w7):=qd H.out a4;clear a4 H D E F G;go_wp2_with fail;refine(M2.out _).mono ?_;rintro e w8 ⟨rfl,a5⟩;have I:Hid (Below d.heap.size d w8):=qd Y.out a5;clear a5 Y;obtain⟨D,E,F,G⟩:=N.out _ I.out;go_wp2_with fail;refine(E1.out _ I.out).mono ?_;rintro e w9 ⟨rfl,a6⟩;have A:Hid (Below d.heap.size d w9):=qd I.out a6;clear a6 I D E F G;obtain⟨D,E,F,G⟩:=N.out _ A.out;obtain⟨S,T,U,V⟩:=a9.out _ A.out;go_wp2_with fail;refine(E2.out _ A.out).mono ?_;rintro e b3 ⟨rfl,L⟩;have a8:Hid (Below w.heap.size w b3):=qd HW.out (qd A.out L);clear L A D E F G S T U V;go_wp2_with fail;go_ret;exact⟨rfl,a8.out⟩
theorem Tryz.info58:(Tryz.prog.info? 58).map (fun i=>(i.zero,i.size,i.bytes))=some (some (.agg #[.string ⟨#[]⟩,.int .i64 0,.int .i64 0]),3,32):=by kernel_rfl
theorem Tryz.info55:(Tryz.prog.info? 55).map (fun i=>(i.zero,i.size,i.bytes))=some (some (.agg #[.string ⟨#[]⟩,.slice none 0 0,.string ⟨#[]⟩]),3,56):=by kernel_rfl
theorem qe1(a b:List Tk):tokC (a++b)=tokC a++tokC b:=by unfold tokC;rw[List.flatMap_append]
theorem qe2(a b:List (Ru × Option Addr × Nat)):rulC (a++b)=rulC a++rulC b:=by unfold rulC;rw[List.flatMap_append]
theorem zd{w:World}{b a E k n:Nat}{v:Value}{cs:List Value}(h:w.ownsRow b E k v n cs)(c:a<=b):w.ownsRow a E k v n cs:=by
 refine⟨h.1,?_⟩
 rcases h.2 with hn | ⟨g,cap,cur,rfl,hg,r⟩
 ·exact .inl hn
 ·exact .inr ⟨g,cap,cur,rfl,by omega,r⟩
theorem u29:Tryz.prog.underlying 26=some (.slice 3):=by kernel_rfl
theorem u28:Tryz.prog.underlying 28=some (.slice 9):=by kernel_rfl
theorem u30:Tryz.prog.underlying 29=some (.slice 47):=by kernel_rfl
theorem u39:Tryz.prog.underlying 38=some (.slice 26):=by kernel_rfl
theorem u51:Tryz.prog.underlying 41=some (.slice 4):=by kernel_rfl
theorem i3:(Tryz.prog.info? 3).map (fun i=>(i.zero,i.size,i.bytes))=some (some (.int .i64 0),1,8):=by kernel_rfl
theorem i4:(Tryz.prog.info? 4).map (fun i=>(i.zero,i.size,i.bytes))=some (some (.bool false),1,1):=by kernel_rfl
theorem i29:(Tryz.prog.info? 26).map (fun i=>(i.zero,i.size,i.bytes))=some (some (.slice none 0 0),1,24):=by kernel_rfl
theorem i9:(Tryz.prog.info? 9).map (fun i=>(i.zero,i.size,i.bytes))=some (some (.string ⟨#[]⟩),1,16):=by kernel_rfl
theorem i62:(Tryz.prog.info? 47).map (fun i=>(i.zero,i.size,i.bytes))=some (some (.agg #[.int .i64 0,.slice none 0 0,.int .i64 0,.int .i64 0]),4,48):=by kernel_rfl
theorem jc{W:World}{B T E k n t:Nat}{s:Option Addr}{z:Value}{by_:Nat}{cs us:List Value}(J:Tryz.prog.underlying T=some (.slice E))(A:(Tryz.prog.info? E).map (fun i=>(i.zero,i.size,i.bytes))=some (some z,k,by_))(q:z.cells.size=k)(H:0<k)(y:by_<=100)(l:us.length=k)(b:∀u∈us,u.oneCell'=true)(h:W.ownsRow B E k (.slice s n t) n cs)(S:B<=W.heap.size)(U:n<100000):
  ∃g c v,(Builtin.append_ #[T,T] T #[.slice s n t,.slice (some ⟨W.heap.size,0,none⟩) 1 1]).run Tryz.prog (W.alloc (.cells us.toArray E))=.ok (.slice (some ⟨g,0,none⟩) (n+1) c) v/\v.ownsRow B E k (.slice (some ⟨g,0,none⟩) (n+1) c) (n+1) (cs++us) /\
   Kept (fun j=>(Value.slice s n t).ownBlock=some j) (W.alloc (.cells us.toArray E)) v/\((Value.slice s n t).ownBlock=some g\/W.heap.size<=g):=by
 obtain⟨K,G,m,o,p⟩:=info_parts A
 have a:∀j x,us[j]?=some x->(W.alloc (.cells us.toArray E)).cell? ((⟨W.heap.size,0,none⟩:Addr).add j)=some x:=by
  intro j x M;rw[Addr.add_lit,Nat.zero_add,World.cell?_alloc_mark,<-M];exact List.getElem?_toArray (xs:=us) (i:=j)
 have d:(n+1) * by_<=140737488355328:=Nat.le_trans (Nat.mul_le_mul (by omega:n+1<=100000) y) (by decide)
 obtain⟨v',N,I,F,O,-⟩:=run_append_own (P:=Tryz.prog) (W.alloc (.cells us.toArray E)) B T T E K _ k by_ J G m o p q H _ n _ (h.alloc _) ⟨W.heap.size,0,none⟩ 1 1 us (by rw[Nat.one_mul];exact l) a
  b (by unfold maxLen;omega) d (by rw[qt];omega)
 obtain⟨v1,w1,f,-,C,D⟩:=qai (P:=Tryz.prog) (W.alloc (.cells us.toArray E)) T T E K _ k by_ J G m o p q H _ n _ (zd (h.alloc _) (Nat.zero_le _)) ⟨W.heap.size,0,none⟩ 1 1 us (by rw[Nat.one_mul];exact l) a
  b (by unfold maxLen;omega) d
 rw[I]at f
 injection f with e1 e2
 subst e1 e2;obtain⟨L,c,rfl,Q,R,r⟩:=zh F
 obtain⟨g,rfl⟩:∃g,L=some ⟨g,0,none⟩:=by
  rcases r with ⟨-,r,-⟩ | r
  ·omega
  ·exact r
 refine⟨g,c,N,I,F,C,?_⟩
 rcases D g rfl with h7 | h7
 ·exact .inl h7
 ·rw[qt]at h7;exact .inr (by omega)
theorem z8{W:World}{B E k n a:Nat}{f:Option Addr}{cs:List Value}(h:W.ownsRow B E k (.slice f n a) n cs):n<=a/\a<=9223372036854775807:=by
 obtain⟨g,b,e,c,d,-⟩:=zh h
 cases e
 unfold maxLen at d;exact⟨c,by omega⟩
def natC (l:List Nat):List Value:=l.map fun(x:Nat)=>Value.int .i64 (x:Int)
def intC (l:List Int):List Value:=l.map fun x=>.int .i64 x
def booC (l:List Bool):List Value:=l.map .bool
def srC (qs:List (SR × Option Addr × Nat)):List Value:=qs.flatMap fun q=>[.int .i64 q.1.l,.slice q.2.1 q.1.r.length q.2.2,.int .i64 q.1.lv,.int .i64 q.1.a]
theorem jf(l:List Nat)(x:Nat):natC (l++[x])=natC l++[.int .i64 (x:Int)]:=by unfold natC;rw[List.map_append];rfl
theorem js(l:List Nat):(natC l).length=l.length:=by unfold natC;rw[List.length_map]
def qci (w:World) (ao:Option Addr) (n cap:Nat) (rs:List SR):Prop :=
 ∃qs:List (SR × Option Addr × Nat),qs.map (·.1)=rs/\Row w 4 ao n cap (srC qs)/\∀q∈qs,Row w 1 q.2.1 q.1.r.length q.2.2 (natC q.1.r)
theorem qci.below{w d:World}{b:Option Addr}{n a:Nat}{rs:List SR}(h:qci w b n a rs)(c:Below w.heap.size w d):qci d b n a rs:=by
 obtain⟨qs,f,g,i⟩:=h;exact⟨qs,f,g.below c,fun q j=>(i q j).below c⟩
theorem qci.at{w:World}{k:Option Addr}{n f:Nat}{rs:List SR}(h:qci w k n f rs){i:Nat}{r:SR}(s:rs[i]?=some r):
  ∃b o t u,k=some ⟨b,o,none⟩/\w.cell? ⟨b,o+i * 4,none⟩=some (.int .i64 r.l)/\w.cell? ⟨b,o+i * 4+1,none⟩=some (.slice t r.r.length u)/\w.cell? ⟨b,o+i * 4+2,none⟩=some (.int .i64 r.lv)/\w.cell? ⟨b,o+i * 4+3,none⟩=some (.int .i64 r.a)/\Row w 1 t r.r.length u (natC r.r):=by
 obtain⟨qs,rfl,m,v⟩:=h;rw[List.getElem?_map]at s;obtain⟨q,g,rfl⟩:=Option.map_eq_some_iff.1 s;have p:=m.len;unfold srC at p;rw[qcq _ (fun _=>rfl)]at p;have z:i<qs.length:=(List.getElem?_eq_some_iff.1 g).1;obtain⟨b,o,x,d⟩:=m.at (by omega)
 have c:=fun j y=>qas (fun q:SR × Option Addr × Nat=>[Value.int .i64 q.1.l,.slice q.2.1 q.1.r.length q.2.2,.int .i64 q.1.lv,.int .i64 q.1.a]) (fun _=>rfl) qs i q j g y
 refine⟨b,o,q.2.1,q.2.2,x,?_,?_,?_,?_,v q (List.mem_of_getElem? g)⟩
 ·exact d (i * 4+0) _ (by unfold srC;rw[c 0 (by omega)];rfl)
 ·exact d (i * 4+1) _ (by unfold srC;rw[c 1 (by omega)];rfl)
 ·exact d (i * 4+2) _ (by unfold srC;rw[c 2 (by omega)];rfl)
 ·exact d (i * 4+3) _ (by unfold srC;rw[c 3 (by omega)];rfl)
theorem vj{w:World}{c:Option Addr}{n a:Nat}{l:List Nat}(h:Row w 1 c n a (natC l)){i x:Nat}(d:l[i]?=some x):∃b o,c=some ⟨b,o,none⟩/\w.cell? ⟨b,o+i,none⟩=some (.int .i64 (x:Int)):=by
 have j:=h.len;rw[js]at j;have k:i<l.length:=(List.getElem?_eq_some_iff.1 d).1;obtain⟨b,o,g,f⟩:=h.at (by omega);exact⟨b,o,g,f i _ (by unfold natC;rw[List.getElem?_map,d];rfl)⟩
theorem qcy{w:World}{c:Option Addr}{n a:Nat}{l:List Int}(h:Row w 1 c n a (intC l)){i:Nat}{x:Int}(f:l[i]?=some x):∃b o,c=some ⟨b,o,none⟩/\w.cell? ⟨b,o+i,none⟩=some (.int .i64 x):=by
 have d:=h.len;unfold intC at d;rw[List.length_map]at d;have k:i<l.length:=(List.getElem?_eq_some_iff.1 f).1;obtain⟨b,o,j,g⟩:=h.at (by omega);exact⟨b,o,j,g i _ (by unfold intC;rw[List.getElem?_map,f];rfl)⟩
structure SHd where
 na:Option Addr
 nc:Nat
 la:Option Addr
 lc:Nat
 aa:Option Addr
 ac:Nat
 ra:Option Addr
 rc:Nat
def sC (h:SHd) (S:Sp):Array Value:=#[.int .i64 (S.tk:Int),.int .i64 (S.nt:Int),.int .i64 (S.st:Int),.int .i64 S.ex,.slice h.na S.nm.length h.nc,.slice h.la S.lv.length h.lc,.slice h.aa S.az.length h.ac,.slice h.ra S.rs.length h.rc]
def sv (h:SHd) (S:Sp):Value:=.agg (sC h S)
structure IsSp (w:World) (h:SHd) (S:Sp):Prop where
 nm:Row w 1 h.na S.nm.length h.nc (strC S.nm)
 lv:Row w 1 h.la S.lv.length h.lc (intC S.lv)
 az:Row w 1 h.aa S.az.length h.ac (intC S.az)
 rl:qci w h.ra S.rs.length h.rc S.rs
theorem IsSp.below{w b:World}{h:SHd}{S:Sp}(g:IsSp w h S)(a:Below w.heap.size w b):IsSp b h S:=⟨g.nm.below a,g.lv.below a,g.az.below a,g.rl.below a⟩
theorem ze{w:World}{k n a:Nat}{b:Option Addr}{cs:List Value}(h:Row w k b n a cs):n<=a/\a<=9223372036854775807:=by
 have d:=h.le;have c:=h.max;unfold maxLen at c;omega
theorem j6{w:World}{n a:Nat}{b:Option Addr}{rs:List SR}(h:qci w b n a rs):n<=a/\a<=9223372036854775807:=by
 obtain⟨qs,-,c,-⟩:=h;exact ze c
theorem sbox{W:World}{b:Nat}{h:SHd}{S:Sp}(a:W.heap[b]?=some (.cells (sC h S) 31 (0,0))):
  W.cell? ⟨b,0,none⟩=some (.int .i64 (S.tk:Int))/\W.cell? ⟨b,1,none⟩=some (.int .i64 (S.nt:Int))/\W.cell? ⟨b,2,none⟩=some (.int .i64 (S.st:Int))/\W.cell? ⟨b,3,none⟩=some (.int .i64 S.ex)/\W.cell? ⟨b,4,none⟩=some (.slice h.na S.nm.length h.nc)/\W.cell? ⟨b,5,none⟩=some (.slice h.la S.lv.length h.lc)/\W.cell? ⟨b,6,none⟩=some (.slice h.aa S.az.length h.ac)/\W.cell? ⟨b,7,none⟩=some (.slice h.ra S.rs.length h.rc) :=
 ⟨by rw[qe a];rfl,by rw[qe a];rfl,by rw[qe a];rfl,by rw[qe a];rfl,by rw[qe a];rfl,by rw[qe a];rfl,by rw[qe a];rfl,by rw[qe a];rfl⟩
structure Mrk (W:World) (base mb fb:Nat) (va:Option Addr) (vc:Nat) (fd:List Bool) (fr:List Nat):Prop where
 box:W.heap[mb]?=some (.cells #[.slice (some ⟨fb,0,none⟩) fd.length fd.length,.slice va fr.length vc] 98 (0,0))
 fnd:W.ownsRow base 4 1 (.slice (some ⟨fb,0,none⟩) fd.length fd.length) fd.length (booC fd)
 frs:W.ownsRow base 3 1 (.slice va fr.length vc) fr.length (natC fr)
 new:base<=mb
def blk (va:Option Addr):Option Nat:=match va with | some a=>some a.block | none=>none
def MF (mb fb:Nat) (va:Option Addr) (k:Nat):Prop:=k=mb\/k=fb\/blk va=some k
def MMv (W:World) (mb fb:Nat) (va:Option Addr) (W':World) (va':Option Addr):Prop:=Kept (MF mb fb va) W W'/\∀k,blk va'=some k->blk va=some k\/W.heap.size<=k
theorem zi{b:Option Addr}{n c k:Nat}(h:(Value.slice b n c).ownBlock=some k):blk b=some k:=by
 cases b with
 | none=>cases h
 | some a=>exact h
theorem MMv.refl(W:World)(c b:Nat)(a:Option Addr):MMv W c b a W a:=⟨Kept.refl _ _,fun _ h=>.inl h⟩
theorem qdd(fd:List Bool)(x:Nat)(b:Bool):booC (fd.set x b)=(booC fd).set x (.bool b):=by unfold booC;rw[List.map_set]
theorem Mrk.add{W:World}{b d a n x:Nat}{l:Option Addr}{fd:List Bool}{f:List Nat}(h:Mrk W b d a l n fd f)(G:b<=W.heap.size)(H:f.length<10000):
  ∃g c j,(Builtin.append_ #[26,26] 26 #[.slice l f.length n,.slice (some ⟨W.heap.size,0,none⟩) 1 1]).run Tryz.prog ((W.setCell ⟨a,x,none⟩ (.bool true)).alloc (.cells #[.int .i64 (x:Int)] 3))=.ok (.slice (some ⟨g,0,none⟩) (f.length+1) c) j /\
   j.heap[d]?=some (.cells #[.slice (some ⟨a,0,none⟩) fd.length fd.length,.slice l f.length n] 98 (0,0)) /\
   Mrk (j.setCell ⟨d,1,none⟩ (.slice (some ⟨g,0,none⟩) (f.length+1) c)) b d a (some ⟨g,0,none⟩) c (fd.set x true) (f++[x])/\MMv W d a l (j.setCell ⟨d,1,none⟩ (.slice (some ⟨g,0,none⟩) (f.length+1) c)) (some ⟨g,0,none⟩):=by
 have r:Loc W d 98:=⟨_,h.box⟩
 have p:Loc W a 4:=qx h.fnd rfl;have v:d≠a:=qr r p (by decide);have s1:=(h.fnd.stored x (.bool true)).1
 have A:(W.setCell ⟨a,x,none⟩ (.bool true)).heap.size=W.heap.size:=by simp[World.setCell]
 have s2:(W.setCell ⟨a,x,none⟩ (.bool true)).ownsRow b 3 1 (.slice l f.length n) f.length (natC f):=qh h.frs (fun i m=>Below.heap_setCell _ _ _ _ (qr (qx h.frs m) p (by decide)))
 have s3:(W.setCell ⟨a,x,none⟩ (.bool true)).heap[d]?=some (.cells #[.slice (some ⟨a,0,none⟩) fd.length fd.length,.slice l f.length n] 98 (0,0)):=by rw[Below.heap_setCell _ _ _ _ v];exact h.box
 have F:Kept (MF d a l) W (W.setCell ⟨a,x,none⟩ (.bool true)):=(Kept.refl _ _).setCell _ _ (fun _=>.inr (.inl rfl))
 generalize W.setCell ⟨a,x,none⟩ (.bool true)=V at *
 obtain⟨g,c,j,C,B,o,E⟩:=jc (us:=[.int .i64 (x:Int)]) u29 i3 rfl (by decide) (by decide) rfl (fun u D=>by rw[List.mem_singleton]at D;subst D;rfl) s2 (by omega) (by omega)
 rw[A]at C;have t:d<V.heap.size:=(Array.getElem?_eq_some_iff.1 s3).1;have s:a<V.heap.size:=(World.ownsRow.lt s1 a rfl).2
 have y:∀k,(Value.slice l f.length n).ownBlock=some k->Loc V k 3:=fun k o=>qx s2 o
 have q:Loc V a 4:=qx s1 rfl
 have t1:j.heap[d]?=some (.cells #[.slice (some ⟨a,0,none⟩) fd.length fd.length,.slice l f.length n] 98 (0,0)):=by
  rw[o.block d (by rw[qt];omega) (fun e=>qr ⟨_,s3⟩ (y _ e) (by decide) rfl),Below.heap_alloc _ _ _ t]
  exact s3
 have t2:j.ownsRow b 4 1 (.slice (some ⟨a,0,none⟩) fd.length fd.length) fd.length ((booC fd).set x (.bool true)) :=
  qh s1 (fun i m=>by
   cases m
   rw[o.block a (by rw[qt];omega) (fun e=>qr q (y _ e) (by decide) rfl),Below.heap_alloc _ _ _ s])
 have z:g≠d:=fun e=>qr (qx B rfl) ⟨_,t1⟩ (by decide) e
 refine⟨g,c,j,C,t1,⟨?_,?_,?_,h.new⟩,?_,?_⟩
 ·rw[setCell_eq_setRow j d 1 _ 98 (0,0) _ t1,List.length_set,List.length_append];exact setRow_heap _ _ _ _ 98 _ t1
 ·rw[qdd,List.length_set]
  exact qh t2 (fun i m=>by
   cases m
   exact Below.heap_setCell _ _ _ _ (Ne.symm v))
 ·rw[jf,List.length_append]
  exact qh B (fun i m=>by
   cases m
   exact Below.heap_setCell _ _ _ _ z)
 ·refine Kept.setCell ?_ _ _ (fun _=>.inl rfl);refine(F.alloc _).trans o (fun i _ e=>.inr (.inr (zi e)))
 ·intro k e
  cases e
  rcases E with h1 | h1
  ·exact .inl (zi h1)
  ·exact .inr (by simp only;omega)
theorem j7(W:World)(a d f q n x:Nat)(l:Option Addr)(fd:List Bool)(b:List Nat)(h:Mrk W a d f l q fd b)(p:MK n fd b)(J:x<n)(I:n<=1000)(z:a<=W.heap.size):
  Calls Tryz.prog 68 #[.pointer (some ⟨d,0,none⟩),.int .i64 x] W fun e i=>e=.returned (.tuple #[])/\∃o t,Mrk i a d f o t (mkd fd b x).1 (mkd fd b x).2/\MMv W d f l i o:=by
 have j:fd.length=n:=p.len;have C:b.length<=n:=p.le
 have y:W.cell? ⟨d,0,none⟩=some (.slice (some ⟨f,0,none⟩) fd.length fd.length):=by rw[qe h.box];rfl
 have c0:W.cell? ⟨f,x,none⟩=some (.bool (isF fd x)):=by
  rw[h.fnd.cellAt x (by omega)];unfold booC;rw[List.getElem?_map,vm (by omega)];rfl
 have A:=z8 h.frs;rw[j]at y
 have D:(x:Int)<(n:Int):=by omega
 cases k:isF fd x
 ·obtain⟨g,c,i,B,t1,v,u⟩:=h.add (x:=x) z (by omega)
  have r:Hid (Mrk (i.setCell ⟨d,1,none⟩ (.slice (some ⟨g,0,none⟩) (b.length+1) c)) a d f (some ⟨g,0,none⟩) c (mkd fd b x).1 (mkd fd b x).2/\MMv W d f l (i.setCell ⟨d,1,none⟩ (.slice (some ⟨g,0,none⟩) (b.length+1) c)) (some ⟨g,0,none⟩)):=by
   unfold mkd;rw[k];exact⟨v,u⟩
  have G:W.frozen? ⟨f,x,none⟩=false:=h.fnd.frozenAt x;have s:d≠f:=qr ⟨_,h.box⟩ (qx h.fnd rfl) (by decide)
  have E:(W.setCell ⟨f,x,none⟩ (.bool true)).cell? ⟨d,1,none⟩=some (.slice l b.length q):=by
   refine qz ?_ s;rw[qe h.box];rfl
  have F:i.cell? ⟨d,1,none⟩=some (.slice l b.length q):=by rw[qe t1];rfl
  have H:i.frozen? ⟨d,1,none⟩=false:=qi t1 1;rw[k]at c0
  generalize b.length=m at *
  clear h p v u t1 k j;go_enter Tryz.func68,Tryz.ntmps68;go_wp2_with(at_builtin;refine Lib.wpList_append_run _ rfl _ _ _ _ rfl _ _ rfl rfl _ _ B ?_)
  go_end0;exact⟨rfl,_,_,r.out⟩
 ·have r:Hid (Mrk W a d f l q (mkd fd b x).1 (mkd fd b x).2):=by
   unfold mkd;rw[k];exact h
  rw[k]at c0;clear h p k j;go_enter Tryz.func68,Tryz.ntmps68;go_wp2_with fail;go_end0;exact⟨rfl,_,_,r.out,MMv.refl _ _ _ _⟩
end Go.Proofs.YtngclmglmhiljaaGreatDoor
