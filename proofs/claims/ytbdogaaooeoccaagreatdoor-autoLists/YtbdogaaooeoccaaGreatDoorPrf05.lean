/- Texts that the proofs of the Auto statements stand on, part Prf05. -/
import Derived.Laws.OwnMore
import Derived.Test.YtbdogaaooeoccaaGreatDoorPrf04
set_option maxHeartbeats 16000000
set_option maxRecDepth 100000
namespace Go.Proofs.YtbdogaaooeoccaaGreatDoor
open Go.RowKit
def qan (r:Ru):List ByteArray:=[r.l,⟨#[58]⟩]++r.r++(if r.p=⟨#[]⟩ then [] else [⟨#[37,112,114,101,99]⟩,r.p])++[⟨#[59]⟩]
def Put (w:World) (b:Nat) (v:Value) (L M:List (List (List UInt8))) (w':World) (e:Ending):Prop:=∃v',e=.returned (.tuple #[])/\Bld w' b v' (tx (L++M))/\OkL (L++M)/\zr w b v w' v'
theorem qi6(r:Ru)(h:Option Addr)(g b:Nat)(v:Value)(L:List (List (List UInt8)))(w:World)(A:Row w 1 h r.r.length g (strC r.r))(B:r.l.size<=100/\r.p.size<=100/\r.r.length<=100/\∀x∈r.r,x.size<=100)(hB:Bld w b v (tx L))(hL:OkL L)(t:L.length<=400):
  Calls Tryz.prog 204 #[.pointer (some ⟨b,0,none⟩),.agg #[.string r.l,.slice h r.r.length g,.string r.p]] w fun e w'=>Put w b v L [(qan r).map by8] w' e:=by
 obtain⟨c,y,a⟩:=r;simp only at A B ⊢;have I:=B.2.2.1;have HS:=hid3 B.1 B.2.1 B.2.2.2;have HB:=hid3 hB hL t
 obtain⟨n,hn⟩:∃n,y.length=n:=⟨_,rfl⟩
 have HN:=hid hn;rw[hn]at A I ⊢;have b0:=A.le
 have b1:g<=9223372036854775807:=by have:=A.max;unfold maxLen at this;omega
 have HR:=hid A;clear B hB hL t hn A;go_enter Tryz.func204,Tryz.ntmps204
 go_upto_region 1 with fail
 have d0:(w.alloc (.cells #[.string c,.slice h n g,.string a] 42)).cell? ⟨w.heap.size,0,none⟩=some (.string c):=by rw[World.cell?_alloc_mark];rfl
 have d1:(w.alloc (.cells #[.string c,.slice h n g,.string a] 42)).cell? ⟨w.heap.size,1,none⟩=some (.slice h n g):=by rw[World.cell?_alloc_mark];rfl
 have d2:(w.alloc (.cells #[.string c,.slice h n g,.string a] 42)).cell? ⟨w.heap.size,2,none⟩=some (.string a):=by rw[World.cell?_alloc_mark];rfl
 have HW:Hid (Below w.heap.size w (w.alloc (.cells #[.string c,.slice h n g,.string a] 42))):=qb _ _;generalize w.alloc (.cells #[.string c,.slice h n g,.string a] 42)=w1 at d0 d1 d2 HW ⊢
 obtain⟨tb,Y⟩:∃tb,tb=w.heap.size:=⟨_,rfl⟩
 rw[<-Y]at d0 d1 d2 ⊢;clear Y;have E:=(qhm w1 [c,⟨#[58]⟩] (by simp)).addRow (HR.out.below (qd HW.out (qb w1 (.cells (strC [c,⟨#[58]⟩]).toArray 9)))) (by simp) (by rw[HN.out];simp;omega) HN.out.symm
 obtain⟨a2,Z,k2,w2,S,K,N,F⟩:=E;have k:(Builtin.append_ #[27,27] 27 #[.slice (some ⟨w1.heap.size,0,none⟩) 2 2,.slice h n g]).run Tryz.prog (w1.alloc (.cells #[.string c,.string ⟨#[58]⟩] 9))=.ok (.slice a2 Z k2) w2:=S;have s:=(qb w1 _).trans F;have z:=hid3 N K s;have a0:=qp d1;have e2:=qt s d2;clear S K N F s
 go_upto_region 2 with (at_builtin;refine Lib.wpList_append_run _ rfl _ _ _ _ rfl _ _ rfl rfl _ _ k ?_)
 clear k d0 d1 d2 a0
 obtain⟨pe,R⟩:∃pe:Bool,(a.toList == [])=pe:=⟨_,rfl⟩
 go_upto_if 13 with fail
 have D:Hid (pe=true↔a=⟨#[]⟩):=by show _↔_;rw[<-R];exact zy a
 clear R
 go_cut [4] (fun s4 wd=>∃u:Option Addr × Nat × Nat,s4=.slice u.1 u.2.1 u.2.2/\Hid (∃l:List ByteArray,l=[c,⟨#[58]⟩]++y++(if a=⟨#[]⟩ then [] else [⟨#[37,112,114,101,99]⟩,a])/\u.2.1=l.length/\OwnS wd w1.heap.size (.slice u.1 u.2.1 u.2.2) l/\Below w1.heap.size w1 wd))
 case first =>
  by_cases j:a=⟨#[]⟩
  ·have i:=D.out.2 j;subst i
   have m:Hid (∃l:List ByteArray,l=[c,⟨#[58]⟩]++y++(if a=⟨#[]⟩ then [] else [⟨#[37,112,114,101,99]⟩,a])/\Z=l.length/\OwnS w2 w1.heap.size (.slice a2 Z k2) l/\Below w1.heap.size w1 w2):=⟨_,rfl,by rw[if_pos j,List.append_nil];exact z.out.2.1,by rw[if_pos j,List.append_nil];exact z.out.1,z.out.2.2⟩
   clear j;go_wp2_with fail;go_meet;exact⟨(a2,Z,k2),rfl,m⟩
  ·have i:=zj D.out j;subst i;have E:=(z.out.1.below (qb w2 (.cells (strC [⟨#[37,112,114,101,99]⟩,a]).toArray 9))).addRow (qaw w2 [⟨#[37,112,114,101,99]⟩,a] (by simp)) (by have:=z.out.2.2.size;simp;omega) (by rw[List.length_append,HN.out];simp;omega) rfl
   obtain⟨a3,n3,k3,w3,T,M,O,G⟩:=E;have U:(Builtin.append_ #[27,27] 27 #[.slice a2 Z k2,.slice (some ⟨w2.heap.size,0,none⟩) 2 2]).run Tryz.prog (w2.alloc (.cells #[.string ⟨#[37,112,114,101,99]⟩,.string a] 9))=.ok (.slice a3 n3 k3) w3:=T
   have m:Hid (∃l:List ByteArray,l=[c,⟨#[58]⟩]++y++(if a=⟨#[]⟩ then [] else [⟨#[37,112,114,101,99]⟩,a])/\n3=l.length/\OwnS w3 w1.heap.size (.slice a3 n3 k3) l/\Below w1.heap.size w1 w3):=⟨_,rfl,by rw[if_neg j];exact M,by rw[if_neg j];exact O,(qd z.out.2.2 (qb w2 _)).trans G⟩
   clear j T M O G;go_wp2_with(at_builtin;refine Lib.wpList_append_run _ rfl _ _ _ _ rfl _ _ rfl rfl _ _ U ?_)
   go_meet;exact⟨(a3,n3,k3),rfl,m⟩
 case rest =>
  obtain⟨⟨a4,n4,k4⟩,rfl,m⟩:=hcut;simp only at m;obtain⟨l,t,a8,P,o⟩:=m.out
  have a7:l.length<=104:=by
   rw[t,List.length_append,List.length_append,HN.out];simp only[List.length_cons,List.length_nil]
   split <;> simp <;> omega
  have J:∀x∈l++[⟨#[59]⟩],x.size<=100:=by
   intro x f;rw[t]at f;simp only[List.mem_append,List.mem_cons,List.not_mem_nil,or_false]at f
   have a1:(⟨#[58]⟩:ByteArray).size<=100:=by decide
   have a6:(⟨#[59]⟩:ByteArray).size<=100:=by decide
   have a9:(⟨#[37,112,114,101,99]⟩:ByteArray).size<=100:=by decide
   rcases f with ((( rfl | rfl) | f) | f) | rfl
   ·exact HS.out.1
   ·exact a1
   ·exact HS.out.2.2 x f
   ·split at f
    ·cases f
    ·simp only[List.mem_cons,List.not_mem_nil,or_false]at f
     rcases f with rfl | rfl
     ·exact a9
     ·exact HS.out.2.1
   ·exact a6
  have E:=(P.below (qb wc (.cells (strC [⟨#[59]⟩]).toArray 9))).addRow (qaw wc [⟨#[59]⟩] (by simp)) (by have:=o.size;simp;omega) (by simp;omega) rfl
  obtain⟨a5,n5,k5,C,V,d,Q,H⟩:=E;have X:(Builtin.append_ #[27,27] 27 #[.slice a4 n4 k4,.slice (some ⟨wc.heap.size,0,none⟩) 1 1]).run Tryz.prog (wc.alloc (.cells #[.string ⟨#[59]⟩] 9))=.ok (.slice a5 n5 k5) C:=V
  have q:Below w.heap.size w C:=by
   have i:=(qd o (qb wc _)).trans H;exact qd HW.out i
  have HC:Hid (Calls Tryz.prog 202 #[.pointer (some ⟨b,0,none⟩),.slice a5 n5 k5] C fun e w'=>∃v',e=.returned (.tuple #[])/\Bld w' b v' (tx (L++[(qan ⟨c,y,a⟩).map by8]))/\OkL (L++[(qan ⟨c,y,a⟩).map by8])/\zr C b v w' v'):=by
   have e:qan ⟨c,y,a⟩=l++[⟨#[59]⟩]:=by rw[t];rfl
   rw[e];exact qck (l++[⟨#[59]⟩]) a5 n5 k5 b v L C (Q.row d) d (by rw[d,List.length_append];simp) (by rw[d,List.length_append];simp;omega) J (HB.out.1.below q) HB.out.2.1 HB.out.2.2
  have HM:Hid (zr w b v C v):=zr.of_below q;clear V d Q H q J a7 t a8 P o m;go_wp2_with(first | (at_builtin;refine Lib.wpList_append_run _ rfl _ _ _ _ rfl _ _ rfl rfl _ _ X ?_))
  refine HC.out.mono ?_;rintro e w6 ⟨v6,rfl,i,h2,h3⟩;have HE:=hid3 i h2 (HM.out.trans h3);clear i h2 h3 HC;go_wp2_with fail;go_end0;exact⟨v6,rfl,HE.out⟩
theorem rowF{w i:World}{b:Nat}{v v':Value}{k:Nat}{d:Option Addr}{n c:Nat}{cs:List Value}(h:Row w k d n c cs)(q:zr w b v i v')(m:∀a,d=some a->¬Foot b v a.block):Row i k d n c cs:=by
 refine⟨h.len,h.le,h.max,h.lies.imp id ?_⟩;rintro⟨g,o,rfl,l⟩;refine⟨g,o,rfl,fun j u r=>?_⟩;have f:=l j u r;have p:=World.block_lt_of_cell? w _ f;rw[<-f]
 unfold World.cell?
 rw[q.1.block _ p (m ⟨g,o,none⟩ rfl)]
def qgp (ts:List Tk) (l:List Int) (k:Nat):List (List (List UInt8)):=if (l[k]?).getD 0=0 then [] else [(keyA ((l[k]?).getD 0) :: kj ts k).map by8]
def kh (ts:List Tk) (l:List Int) (k:Nat):List (List (List UInt8)):=(List.range k).flatMap fun i=>qgp ts l (i+1)
def ki (ts:List Tk):List (List (List UInt8)):=if ts=[] then [] else [((⟨#[37,116,111,107,101,110]⟩:ByteArray) :: ts.map (·.n)).map by8]
theorem qgq(ts:List Tk)(l:List Int)(k:Nat):kh ts l (k+1)=kh ts l k++qgp ts l (k+1):=by
 unfold kh;rw[List.range_succ,List.flatMap_append];simp
theorem qej(ts:List Tk)(l:List Int)(k:Nat):(kh ts l k).length<=k:=by
 induction k with
 | zero=>simp[kh]
 | succ k ih =>
  rw[qgq,List.length_append];unfold qgp
  split <;> simp <;> omega
def LvB (ts:List Tk) (l:List Int) (L:List (List (List UInt8))) (w:World) (b:Nat) (v:Value) (wr:World) (lb k:Nat):Prop :=
 ∃v',Bld wr b v' (tx (L++ki ts++kh ts l (k - 1)))/\OkL (L++ki ts++kh ts l (k - 1))/\zr w b v wr v'/\wr.heap[lb]?=some (.cells (ar9 l) 182 (0,0))/\¬Foot b v' lb
theorem qgr(ts:List Tk)(l:List Int)(V:Option Addr)(n f b:Nat)(v:Value)(L:List (List (List UInt8)))(w:World)(hr:Row w 3 V n f (tokC ts))(hn:n=ts.length)(c4:n<=100)(hs:∀t∈ts,t.n.size<=100)(b1:levF ts=some l)(b4:qbm l)(b0:0<n->∀a,V=some a->¬Foot b v a.block)(hB:Bld w b v (tx L))(hL:OkL L)(hl:L.length<=300):
  Calls Tryz.prog 201 #[.pointer (some ⟨b,0,none⟩),.slice V n f] w fun e O=>Put w b v L (ki ts++kh ts l 8) O e:=by
 have B:=hid hn;have HR:=hid hr;have HS:=hid hs;have P:=hid3 hB hL hl;have u:=hid2 b1 b4;have Q:=hid b0;have c9:=hr.le
 have d2:f<=9223372036854775807:=by have:=hr.max;unfold maxLen at this;omega
 clear hr hn hs hB hL hl b1 b4 b0
 by_cases h0:n=0
 ·have e0:((n:Int) == 0)=true:=by simpa using h0
  have c:Hid (ki ts++kh ts l 8=[]):=by
   have e:=List.eq_nil_of_length_eq_zero (by rw[<-B.out];exact h0)
   subst e
   have e2:l=jw:=by have:=u.out.1;cases this;rfl
   subst e2;rfl
  have HE:=hid2 P.out.1 P.out.2.1;clear P u h0;go_enter Tryz.func201,Tryz.ntmps201;go_wp2_with fail;refine bodyPost_ret (results_none rfl _ _ _) rfl ?_;exact⟨v,rfl,by rw[c.out,List.append_nil];exact HE.out.1,by rw[c.out,List.append_nil];exact HE.out.2,zr.refl _ _ _⟩
 ·have e0:((n:Int) == 0)=false:=by simpa using h0
  have a5:=hid (Q.out (by omega));clear Q
  have U:Hid (ki ts=[((⟨#[37,116,111,107,101,110]⟩:ByteArray) :: ts.map (·.n)).map by8]):=by
   show _=_;unfold ki;rw[if_neg (fun e=>h0 (by rw[B.out,e];rfl))]
  have HO:Hid (OwnS (w.alloc (.cells #[.string ⟨#[37,116,111,107,101,110]⟩] 9)) w.heap.size (.slice (some ⟨w.heap.size,0,none⟩) 1 1) [⟨#[37,116,111,107,101,110]⟩]/\Below w.heap.size w (w.alloc (.cells #[.string ⟨#[37,116,111,107,101,110]⟩] 9))):=⟨qhm w [⟨#[37,116,111,107,101,110]⟩] (by simp),qb _ _⟩
  obtain⟨g,I⟩:∃g:ByteArray,g=⟨#[37,116,111,107,101,110]⟩:=⟨_,rfl⟩
  have b7:Hid (g.size<=100):=by show _<=_;rw[I];decide
  rw[<-I]at U;go_enter Tryz.func201,Tryz.ntmps201
  go_upto_region 2 with fail
  rw[<-I]at HO ⊢;clear I;generalize c6:w.alloc (.cells #[.string g] 9)=w1 at HO ⊢;clear c6
  go_upto_block 0 with fail
  go_cut [4] (fun s4 wd=>∃h:Option Addr × Nat × Nat,s4=.slice h.1 h.2.1 h.2.2/\Hid (h.2.1=(g :: ts.map (·.n)).length/\Row wd 1 h.1 h.2.1 h.2.2 (strC (g :: ts.map (·.n)))/\Below w.heap.size w wd))
  case first =>
   go_wp2_with fail
   go_loopg [4,16] n (fun kx s4 s16 wr=>∃(i:Nat) (h:Option Addr × Nat × Nat),s4=.slice h.1 h.2.1 h.2.2/\s16=.int .i64 i/\i<=n/\n - i<=kx/\Hid (∃q:List ByteArray,q=g :: (ts.take i).map (·.n)/\h.2.1=q.length/\OwnS wr w.heap.size (.slice h.1 h.2.1 h.2.2) q/\Below w.heap.size w wr))
   case atStart=>exact⟨0,(some ⟨w.heap.size,0,none⟩,1,1),rfl,rfl,Nat.zero_le _,by omega,(⟨[g],rfl,rfl,HO.out.1,HO.out.2⟩:∃q:List ByteArray,q=g :: (ts.take 0).map (·.n)/\1=q.length/\OwnS w1 w.heap.size (.slice (some ⟨w.heap.size,0,none⟩) 1 1) q/\Below w.heap.size w w1)⟩
   case round =>
    obtain⟨i,⟨la,ln,lc⟩,rfl,rfl,hi,hg,J⟩:=hrel;simp only at J;obtain⟨q,hq,A,m,d⟩:=J.out
    have d1:q.length<=101:=by
     rw[hq,List.length_cons,List.length_map,List.length_take,<-B.out];omega
    clear J HO
    by_cases a0:i<n
    ·obtain⟨t,ht⟩:∃t,ts[i]?=some t:=⟨ts[i]'(by rw[<-B.out];exact a0),List.getElem?_eq_getElem _⟩
     obtain⟨d3,o,rfl,c0,c1,c2⟩:=jd (HR.out.below d) ht
     have HT:Hid (g :: (ts.take (i+1)).map (·.n)=q++[t.n]):=by show _=_;rw[zw ht,List.map_append,hq];rfl
     have p:=hid A;obtain⟨N,tl,ta⟩:=t;simp only at c0 c1 c2 HT;clear ht;clear hq A
     go_upto_region 5 with fail
     have C:Hid (OwnS (wr.alloc (.cells #[.string N,.int .i64 tl,.int .i64 ta] 40)) w.heap.size (.slice la ln lc) q/\Below w.heap.size w (wr.alloc (.cells #[.string N,.int .i64 tl,.int .i64 ta] 40))):=⟨m.below (qb _ _),qd d (qb _ _)⟩
     have d0:(wr.alloc (.cells #[.string N,.int .i64 tl,.int .i64 ta] 40)).cell? ⟨wr.heap.size,0,none⟩=some (.string N):=by rw[World.cell?_alloc_mark];rfl
     generalize wr.alloc (.cells #[.string N,.int .i64 tl,.int .i64 ta] 40)=wq at C d0 ⊢;generalize wr.heap.size=tb at d0 ⊢;clear c0 c1 c2 m d;have hA:=(C.out.1.below (qb wq (.cells #[.string N] 9))).addRow (qaw wq [N] (by simp)) (by have:=C.out.2.size;simp;omega) (by simp;omega) rfl
     obtain⟨a2,n2,c2,w2,hr,b3,b5,a9⟩:=hA;have c5:(Builtin.append_ #[27,27] 27 #[.slice la ln lc,.slice (some ⟨wq.heap.size,0,none⟩) 1 1]).run Tryz.prog (wq.alloc (.cells #[.string N] 9))=.ok (.slice a2 n2 c2) w2:=hr
     have c:Hid (∃q:List ByteArray,q=g :: (ts.take (i+1)).map (·.n)/\n2=q.length/\OwnS w2 w.heap.size (.slice a2 n2 c2) q/\Below w.heap.size w w2) :=
      ⟨q++[N],HT.out.symm,b3,b5,(qd C.out.2 (qb _ _)).trans a9⟩
     clear hr b3 b5 a9 HT;go_wp2_with(at_builtin;refine Lib.wpList_append_run _ rfl _ _ _ _ rfl _ _ rfl rfl _ _ c5 ?_)
     go_roundg (n - (i+1))
     case measure=>omega
     case rel=>exact⟨i+1,(a2,n2,c2),rfl,by simp,by omega,Nat.le_refl _,c⟩
    ·obtain rfl:i=n:=by omega
     have c:Hid (ln=(g :: ts.map (·.n)).length/\Row wr 1 la ln lc (strC (g :: ts.map (·.n)))/\Below w.heap.size w wr):=by
      have e:q=g :: ts.map (·.n):=by rw[hq,B.out,List.take_length]
      rw[<-e];exact⟨A,m.row A,d⟩
     clear hq A m d;go_wp2_with fail;go_meet;exact⟨(la,ln,lc),rfl,c⟩
  case rest =>
   obtain⟨⟨a4,n4,k4⟩,rfl,c⟩:=hcut;simp only at c
   have HC:Hid (Calls Tryz.prog 202 #[.pointer (some ⟨b,0,none⟩),.slice a4 n4 k4] wc fun e O=>∃v',e=.returned (.tuple #[])/\Bld O b v' (tx (L++ki ts))/\OkL (L++ki ts)/\zr wc b v O v'):=by
    rw[U.out]
    exact qck (g :: ts.map (·.n)) a4 n4 k4 b v L wc c.out.2.1 c.out.1 (by rw[c.out.1];simp) (by rw[c.out.1,List.length_cons,List.length_map,<-B.out];omega) (fun x hx=>by
     rw[List.mem_cons,List.mem_map]at hx
     rcases hx with rfl | ⟨t,ht,rfl⟩
     ·exact b7.out
     ·exact HS.out t ht) (P.out.1.below c.out.2.2) P.out.2.1 (by have:=P.out.2.2;omega)
   have b9:Hid ((L++ki ts).length<=301):=by show _<=_;rw[U.out,List.length_append];have:=P.out.2.2;simp;omega
   have a7:Hid (zr w b v wc v):=zr.of_below c.out.2.2;clear c HO P;go_wp2_with fail;refine HC.out.mono ?_;rintro e w5 ⟨v5,rfl,G,h2,X⟩;have H5:=hid3 G h2 (a7.out.trans X);clear G h2 X HC a7
   have c3:Hid (∀W:World,Below w.heap.size w W->Calls Tryz.prog 160 #[.slice V n f] W fun e O=>∃(l:List Int) (r:Int),e=.returned (.tuple #[.agg (ar9 l),.bool (decide (r=1))])/\qnk ts l (decide (r=1))/\Below W.heap.size W O):=fun W hW=>qau ts V n f W (HR.out.below hW) B.out (by omega)
   have a3:=hid (rowF HR.out H5.out.2.2 a5.out);have a6:=hid (qau ts V n f w5 a3.out B.out (by omega));clear c3;go_wp2_with fail;refine a6.out.mono ?_;rintro e w6 ⟨l',ri,rfl,K,Y⟩;have a1:=K.2.1.2 ⟨l,u.out.1,u.out.2⟩
   have b2:l'=l:=by have:=K.2.2 a1;rw[u.out.1]at this;cases this;rfl
   subst b2;have Z:=K.1;obtain⟨xa,xb,xc,xd,xe,xf,xg,xi,xj,b6⟩:=nine Z
   have hA:ar9 l'=#[.int .i64 xa,.int .i64 xb,.int .i64 xc,.int .i64 xd,.int .i64 xe,.int .i64 xf,.int .i64 xg,.int .i64 xi,.int .i64 xj]:=by rw[b6];rfl
   have y:=hid3 (H5.out.1.below Y) H5.out.2.1 (H5.out.2.2.trans (zr.of_below Y))
   have D:Hid (Bld (w6.alloc (.cells (ar9 l') 182)) b v5 (tx (L++ki ts++kh ts l' 0))/\OkL (L++ki ts++kh ts l' 0)/\zr w b v (w6.alloc (.cells (ar9 l') 182)) v5/\(w6.alloc (.cells (ar9 l') 182)).heap[w6.heap.size]?=some (.cells (ar9 l') 182 (0,0))/\¬Foot b v5 w6.heap.size):=by
    have e:L++ki ts++kh ts l' 0=L++ki ts:=by simp[kh]
    rw[e];exact⟨y.out.1.below (qb _ _),y.out.2.1,y.out.2.2.trans (zr.of_below (qb _ _)),heap_alloc_new _ _,fun hf=>by have:=y.out.1.lt _ hf;omega⟩
   rw[a1];clear K Y a6 H5 a3 a1;rw[hA]
   go_upto_region 9 with fail
   rw[<-hA];clear b6 hA y;generalize w6.alloc (.cells (ar9 l') 182)=w7 at D ⊢;generalize w6.heap.size=lb at D ⊢;have b8:=hid Z;clear Z
   have j:Hid (LvB ts l' L w b v w7 lb 1):=⟨v5,D.out⟩
   clear D;go_wp2_with fail
   go_loopg [9] 9 (fun kx s9 wr=>∃k:Nat,s9=.int .i64 k/\1<=k/\k<=9/\9 - k<=kx/\Hid (LvB ts l' L w b v wr lb k))
   case atStart=>exact⟨1,rfl,Nat.le_refl _,by omega,by omega,j⟩
   case round =>
    obtain⟨k,rfl,c7,c8,hg,J⟩:=hrel;clear j
    by_cases a0:k<9
    ·obtain⟨T,jB,jO,jM,jH,jF⟩:=J.out
     have hx:wr.cell? ⟨lb,k,none⟩=some (.int .i64 ((l'[k]?).getD 0)):=by rw[qe jH];exact qgj b8.out a0
     have E:Hid (kh ts l' k=kh ts l' (k - 1)++qgp ts l' k):=by
      obtain⟨q,rfl⟩:∃q,k=q+1:=⟨k - 1,by omega⟩
      exact qgq ts l' q
     have R:=hid5 jB jO jM jH jF;have a8:=hid (rowF HR.out jM a5.out);have p:Hid (qgp ts l' k=if (l'[k]?).getD 0=0 then [] else [(keyA ((l'[k]?).getD 0) :: kj ts k).map by8]):=rfl;clear jB jO jM jH jF J;generalize (l'[k]?).getD 0=x at hx p
     by_cases s:x=0
     ·have e1:(x != 0)=false:=by simpa using s
      have c:Hid (LvB ts l' L w b v wr lb (k+1)):=by
       refine⟨T,?_⟩
       have e:kh ts l' (k+1 - 1)=kh ts l' (k - 1):=by rw[Nat.add_sub_cancel,E.out,p.out,if_pos s,List.append_nil]
       rw[e];exact R.out
      clear R E p s;go_wp2_with fail;go_roundg (9 - (k+1))
      case measure=>omega
      case rel=>exact⟨k+1,by simp,by omega,by omega,Nat.le_refl _,c⟩
     ·have e1:(x != 0)=true:=by simpa using s
      have HC:=hid (qgo ts V n f k x wr a8.out B.out c4);go_wp2_with fail;refine HC.out.mono ?_;rintro e w8 ⟨ya,ym,yc,rfl,M,S,H⟩
      have HP:Hid (Calls Tryz.prog 202 #[.pointer (some ⟨b,0,none⟩),.slice ya ym yc] w8 fun e O=>∃v',e=.returned (.tuple #[])/\Bld O b v' (tx (L++ki ts++kh ts l' k))/\OkL (L++ki ts++kh ts l' k)/\zr w8 b T O v'):=by
       have e:L++ki ts++kh ts l' k=(L++ki ts++kh ts l' (k - 1))++[(keyA x :: kj ts k).map by8]:=by rw[E.out,p.out,if_neg s,<-List.append_assoc]
       rw[e];refine qck (keyA x :: kj ts k) ya ym yc b T _ w8 S M (by rw[M];simp) (by rw[M,List.length_cons];have:=qc1 ts (k:Int);rw[<-B.out]at this;omega) (fun z hz=>?_) (R.out.1.below H) R.out.2.1 (by have G:=qej ts l' (k - 1);have h2:=b9.out;rw[List.length_append];omega)
       rw[List.mem_cons]at hz
       rcases hz with rfl | hz
       ·exact qow x
       ·unfold kj at hz;rw[List.mem_map]at hz;obtain⟨t,ht,rfl⟩:=hz;exact HS.out t (List.mem_filter.1 ht).1
      have C:Hid (zr w b v w8 T/\w8.heap[lb]?=some (.cells (ar9 l') 182 (0,0))/\lb<w8.heap.size):=by
       have G:=qf H R.out.2.2.2.1;exact⟨R.out.2.2.1.trans (zr.of_below H),G,(Array.getElem?_eq_some_iff.1 G).1⟩
      have F:=hid R.out.2.2.2.2;clear M S H HC R E p a8 s;go_wp2_with fail;refine HP.out.mono ?_;rintro e w9 ⟨v9,rfl,G,h2,X⟩
      have c:Hid (LvB ts l' L w b v w9 lb (k+1)):=by
       refine⟨v9,by rw[Nat.add_sub_cancel];exact G,by rw[Nat.add_sub_cancel];exact h2,C.out.1.trans X,?_,?_⟩
       ·rw[X.1.block lb C.out.2.2 F.out];exact C.out.2.1
       ·rintro(rfl | hk)
        ·exact F.out (.inl rfl)
        ·rcases X.2 lb hk with h4 | h4
         ·exact F.out (.inr h4)
         ·have:=C.out.2.2;omega
      clear G h2 X HP C F;go_wp2_with fail;go_roundg (9 - (k+1))
      case measure=>omega
      case rel=>exact⟨k+1,by simp,by omega,by omega,Nat.le_refl _,c⟩
    ·obtain rfl:k=9:=by omega
     obtain⟨T,jB,jO,jM,-,-⟩:=J.out
     have c:Hid (Bld wr b T (tx (L++(ki ts++kh ts l' 8)))/\OkL (L++(ki ts++kh ts l' 8))/\zr w b v wr T):=by
      rw[<-List.append_assoc];exact⟨jB,jO,jM⟩
     clear jB jO jM J;go_wp2_with fail;go_end0;exact⟨T,rfl,c.out⟩
def jo (s:ByteArray):List (List (List UInt8)):=if s=⟨#[]⟩ then [] else [([⟨#[37,115,116,97,114,116]⟩,s]:List ByteArray).map by8]
def qbs (e:Int):List (List (List UInt8)):=if e=0 then [] else [[by8 ⟨#[37,101,120,112,101,99,116]⟩,dg 6 e.toNat []]]
def qao (G:Gm) (l:List Int):List (List (List UInt8)):=ki G.ts++kh G.ts l 8++jo G.s++qbs G.e++[[by8 ⟨#[37,37]⟩]]
def yx (G:Gm) (l:List Int):List (List (List UInt8)):=qao G l++G.rs.map fun r=>(qan r).map by8
def qr8 (G:Gm) (t:ByteArray):Prop:=(MayP G->∀l,levF G.ts=some l->by8 t=tx (yx G l))/\(¬MayP G->t=⟨#[]⟩)
def NewL (w wr:World) (b:Nat) (L:List (List (List UInt8))):Prop:=∃v,Bld wr b v (tx L)/\OkL L/\Below w.heap.size w wr/\∀k,Foot b v k->w.heap.size<=k
theorem NewL.put{w wr a:World}{b:Nat}{v v':Value}{L:List (List (List UInt8))}(f:Below w.heap.size w wr)(c:∀k,Foot b v k->w.heap.size<=k)(d:Bld a b v' (tx L))(h:OkL L)(g:zr wr b v a v'):NewL w a b L:=by
 obtain⟨-,-,i,-⟩:=NewB.step f c d g;refine⟨v',d,h,i,?_⟩;rintro k (rfl | j)
 ·exact c k (.inl rfl)
 ·rcases g.2 k j with h7 | h7
  ·exact c k (.inr h7)
  ·exact Nat.le_trans f.size h7
theorem NewL.below{w wr a:World}{b:Nat}{L:List (List (List UInt8))}(h:NewL w wr b L)(c:Below wr.heap.size wr a):NewL w a b L:=by
 obtain⟨v,d,f,g,i⟩:=h;exact⟨v,d.below c,f,qd g c,i⟩
theorem NewL.bel{w wr:World}{b:Nat}{L:List (List (List UInt8))}(h:NewL w wr b L):Below w.heap.size w wr:=by
 obtain⟨v,-,-,a,-⟩:=h;exact a
theorem qlw(l:List ByteArray)(c:Option Addr)(n a b:Nat)(L:List (List (List UInt8)))(w W:World)(r:Row W 1 c n a (strC l))(q:n=l.length)(m:1<=n)(d:n<=1000)(s:∀x∈l,x.size<=100)(o:NewL w W b L)(p:L.length<=400):
  Calls Tryz.prog 202 #[.pointer (some ⟨b,0,none⟩),.slice c n a] W fun e f=>e=.returned (.tuple #[])/\NewL w f b (L++[l.map by8]):=by
 obtain⟨v,g,h,i,j⟩:=o;refine(qck l c n a b v L W r q m d s g h p).mono ?_;rintro e f ⟨v',rfl,c1,c2,k⟩;exact⟨rfl,NewL.put i j c1 c2 k⟩
theorem qlx(r:Ru)(a:Option Addr)(c b:Nat)(L:List (List (List UInt8)))(w W:World)(n:Row W 1 a r.r.length c (strC r.r))(o:r.l.size<=100/\r.p.size<=100/\r.r.length<=100/\∀x∈r.r,x.size<=100)(k:NewL w W b L)(m:L.length<=400):
  Calls Tryz.prog 204 #[.pointer (some ⟨b,0,none⟩),.agg #[.string r.l,.slice a r.r.length c,.string r.p]] W fun e d=>e=.returned (.tuple #[])/\NewL w d b (L++[(qan r).map by8]):=by
 obtain⟨v,f,g,h,i⟩:=k;refine(qi6 r a c b v L W n o f g m).mono ?_;rintro e d ⟨v',rfl,c1,c2,j⟩;exact⟨rfl,NewL.put h i c1 c2 j⟩
theorem qnp(w:World):NewL w (w.alloc (.cells #[.pointer none,.slice none 0 0] 217)) w.heap.size []:=by
 obtain⟨a,b,c⟩:=qeh w w (Below.refl _ _);exact⟨.slice none 0 0,a,fun _ h=>(by cases h),b,c⟩
theorem qi7(ts:List Tk)(l:List Int)(d:Option Addr)(n c b:Nat)(w W:World)(j:Row w 3 d n c (tokC ts))(E:n=ts.length)(i:n<=100)(F:∀t∈ts,t.n.size<=100)(f:levF ts=some l)(h:qbm l)(A:NewL w W b []):
  Calls Tryz.prog 201 #[.pointer (some ⟨b,0,none⟩),.slice d n c] W fun e p=>e=.returned (.tuple #[])/\NewL w p b (ki ts++kh ts l 8):=by
 obtain⟨v,q,r,k,m⟩:=A;refine(qgr ts l d n c b v [] W (j.below k) E i F f h (fun u a B D=>?_) q r (by simp)).mono ?_
 ·obtain⟨g,o,e,C⟩:=j.at u;rw[B]at e
  cases e
  have x:=m _ D;have y:(tokC ts)[0]?=some ((tokC ts)[0]'(by rw[j.len];omega)):=List.getElem?_eq_getElem _
  have z:=World.block_lt_of_cell? w _ (C 0 _ y);simp only at x z;omega
 ·rintro e p ⟨v',rfl,c1,c2,s⟩;rw[List.nil_append]at c1 c2;exact⟨rfl,NewL.put k m c1 c2 s⟩
theorem qnq(G:Gm)(h:Hd)(w:World)(T:ByteArray)(b4:G.s=⟨#[]⟩)(b6:G.e=0)(M:IsG w h G)(hT:qr8 G T):Calls Tryz.prog 181 #[gv h G] w fun e g=>e=.returned (.string T)/\Below w.heap.size w g:=by
 obtain⟨r,hr⟩:=zv (MayP G)
 have HM:Hid (∀W:World,Below w.heap.size w W->Calls Tryz.prog 131 #[gv h G] W fun e g=>e=.returned (.bool r)/\Below W.heap.size W g):=fun W y=>qci G h W r (M.below y) hr
 obtain⟨ts,a,c,rs⟩:=G;obtain⟨C,m,P,Q⟩:=h
 have c8:ts.length<=m/\m<=9223372036854775807:=by have h1:=M.tok.le;have h2:=M.tok.max;simp only at h1 h2;unfold maxLen at h2;omega
 have b0:=kv M.rul;simp only at b0;have d0:ts.length<=100:=M.small.nt;have d1:rs.length<=200:=M.small.nr;have HG:=hid M;have b8:Hid (a=⟨#[]⟩):=b4;have c6:Hid (c=0):=b6;have HT:=hid hT;have HR:=hid hr;unfold gv at HM ⊢;simp only at HM ⊢;clear M hT hr b4 b6
 obtain⟨H,X⟩:∃n,ts.length=n:=⟨_,rfl⟩
 have c4:=hid X
 obtain⟨i,V⟩:∃n,rs.length=n:=⟨_,rfl⟩
 have F:=hid V;rw[X]at c8 d0 HM ⊢;rw[V]at b0 d1 HM ⊢;clear X V;go_enter Tryz.func181,Tryz.ntmps181
 go_upto_region 1 with fail
 have c0:(w.alloc (.cells #[.slice C H m,.string a,.int .i64 c,.slice P i Q] 25)).cell? ⟨w.heap.size,0,none⟩=some (.slice C H m):=by rw[World.cell?_alloc_mark];rfl
 have c1:(w.alloc (.cells #[.slice C H m,.string a,.int .i64 c,.slice P i Q] 25)).cell? ⟨w.heap.size,1,none⟩=some (.string a):=by rw[World.cell?_alloc_mark];rfl
 have c2:(w.alloc (.cells #[.slice C H m,.string a,.int .i64 c,.slice P i Q] 25)).cell? ⟨w.heap.size,2,none⟩=some (.int .i64 c):=by rw[World.cell?_alloc_mark];rfl
 have c3:(w.alloc (.cells #[.slice C H m,.string a,.int .i64 c,.slice P i Q] 25)).cell? ⟨w.heap.size,3,none⟩=some (.slice P i Q):=by rw[World.cell?_alloc_mark];rfl
 have HB:Hid (Below w.heap.size w (w.alloc (.cells #[.slice C H m,.string a,.int .i64 c,.slice P i Q] 25))):=qb _ _;generalize w.alloc (.cells #[.slice C H m,.string a,.int .i64 c,.slice P i Q] 25)=wq at c0 c1 c2 c3 HB ⊢
 obtain⟨gb,a8⟩:∃gb,gb=w.heap.size:=⟨_,rfl⟩
 rw[<-a8]at c0 c1 c2 c3 ⊢;clear a8;go_wp2_with fail;refine(HM.out _ HB.out).mono ?_;rintro e w1 ⟨rfl,j⟩
 have C0:Hid (∀W:World,Below w1.heap.size w1 W->W.cell? ⟨gb,0,none⟩=some (.slice C H m)/\W.cell? ⟨gb,1,none⟩=some (.string a)/\W.cell? ⟨gb,2,none⟩=some (.int .i64 c)/\W.cell? ⟨gb,3,none⟩=some (.slice P i Q)):=fun W y=>⟨qt (qd j y) c0,qt (qd j y) c1,qt (qd j y) c2,qt (qd j y) c3⟩
 have D:=hid (qd HB.out j);clear c0 c1 c2 c3 HB j HM
 cases r
 ·have E:=hid (HT.out.2 (fun h=>by have:=HR.out.2 h;cases this))
  go_wp2_with fail;go_ret;exact⟨by rw[E.out];rfl,D.out⟩
 ·have f:=HR.out.1 rfl;obtain⟨l,Z,a9⟩:=f.tk.2;have c5:=hid (HT.out.1 f l Z);have q:=hid (HG.out.below D.out);have d2:0<=c:=f.e0;have d3:c<=9999:=f.e1;have u:=hid (qnp w1)
  have a4:Hid (∀(W:World) (b:Nat),NewL w1 W b []->Calls Tryz.prog 201 #[.pointer (some ⟨b,0,none⟩),.slice C H m] W fun e g=>e=.returned (.tuple #[])/\NewL w1 g b (ki ts++kh ts l 8)):=fun W b y=>by
   have:=qi7 ts l C ts.length m b w1 W q.out.tok rfl q.out.small.nt q.out.small.tk Z a9 y
   rwa [c4.out]at this
  clear f Z a9 HG HT HR
  go_upto_region 4 with fail
  generalize w1.alloc (.cells #[.pointer none,.slice none 0 0] 217)=w2 at u ⊢
  obtain⟨d,b3⟩:∃d,d=w1.heap.size:=⟨_,rfl⟩
  rw[<-b3]at u ⊢;clear b3;obtain⟨c0,-,-,-⟩:=C0.out w2 u.out.bel;go_wp2_with fail;refine(a4.out _ _ u.out).mono ?_;rintro e w3 ⟨rfl,a5⟩;have R:=hid a5
  have K:Hid ((ki ts++kh ts l 8).length<=9):=by
   show _<=_;rw[List.length_append];have:=qej ts l 8
   have h2:(ki ts).length<=1:=by unfold ki;split <;> simp
   omega
  clear a5 a4 u c0;obtain⟨-,c1,-,-⟩:=C0.out w3 R.out.bel
  obtain⟨se,b5⟩:∃pe:Bool,(a.toList == [])=pe:=⟨_,rfl⟩
  go_upto_if 14 with fail
  have a3:Hid (se=true↔a=⟨#[]⟩):=by show _↔_;rw[<-b5];exact zy a
  clear b5
  go_cut [15] (fun s15 wd=>Hid (NewL w1 wd d (ki ts++kh ts l 8++jo a)))
  case first =>
   have a0:=b8.out;have h1:=a3.out.2 a0;subst h1
   have E:Hid (NewL w1 w3 d (ki ts++kh ts l 8++jo a)):=by
    have e:jo a=[]:=by unfold jo;rw[if_pos a0]
    rw[e,List.append_nil];exact R.out
   clear a0;go_wp2_with fail;go_meet;exact E
  case rest =>
   obtain⟨w4,d4⟩:∃w4,w4=wc:=⟨_,rfl⟩
   subst wc;have S:Hid (NewL w1 w4 d (ki ts++kh ts l 8++jo a)):=hcut
   have L:Hid ((ki ts++kh ts l 8++jo a).length<=10):=by
    show _<=_;rw[List.length_append]
    have h2:(jo a).length<=1:=by unfold jo;split <;> simp
    have:=K.out;omega
   clear hcut R K c1 a3;obtain⟨-,-,c2,-⟩:=C0.out w4 S.out.bel
   go_upto_if 21 with fail
   go_cut [22] (fun s22 wd=>Hid (NewL w1 wd d (ki ts++kh ts l 8++jo a++qbs c)))
   case first =>
    have Y:=c6.out
    have h1:(c != 0)=false:=by simpa using Y
    have E:Hid (NewL w1 w4 d (ki ts++kh ts l 8++jo a++qbs c)):=by
     have e:qbs c=[]:=by unfold qbs;rw[if_pos Y]
     rw[e,List.append_nil];exact S.out
    clear Y;go_wp2_with fail;go_meet;exact E
   case rest =>
    obtain⟨w6,d5⟩:∃w6,w6=wc:=⟨_,rfl⟩
    subst wc;have a2:Hid (NewL w1 w6 d (ki ts++kh ts l 8++jo a++qbs c)):=hcut
    have t:Hid ((ki ts++kh ts l 8++jo a++qbs c).length<=11):=by
     show _<=_;rw[List.length_append]
     have h2:(qbs c).length<=1:=by unfold qbs;split <;> simp
     have:=L.out;omega
    have I:Hid (Calls Tryz.prog 202 #[.pointer (some ⟨d,0,none⟩),.slice (some ⟨w6.heap.size,0,none⟩) 1 1] (w6.alloc (.cells #[.string ⟨#[37,37]⟩] 9)) fun e g=>e=.returned (.tuple #[])/\NewL w1 g d (qao ⟨ts,a,c,rs⟩ l)) :=
     qlw [⟨#[37,37]⟩] _ 1 1 d _ w1 _ (qaw w6 [⟨#[37,37]⟩] (by simp)) rfl (by omega) (by omega) (fun x hx=>by
      rw[List.mem_singleton]at hx;subst hx
      exact(by decide:(⟨#[37,37]⟩:ByteArray).size<=100)) (a2.out.below (qb _ _)) (by have:=t.out;simp only;omega)
    have a1:Hid ((qao ⟨ts,a,c,rs⟩ l).length<=12):=by
     show _<=_;unfold qao;rw[List.length_append];have:=t.out;simp only[List.length_cons,List.length_nil];omega
    clear hcut S L c2 a2 t;go_wp2_with fail;refine I.out.mono ?_;rintro e w7 ⟨rfl,a6⟩;have U:=hid a6;clear a6 I;obtain⟨-,-,-,c3⟩:=C0.out w7 U.out.bel
    go_upto_block 0 with fail
    go_cut [32] (fun s32 wd=>Hid (NewL w1 wd d (yx ⟨ts,a,c,rs⟩ l)))
    case first =>
     go_wp2_with fail
     go_loopg [32] i (fun kx s32 wr=>∃k:Nat,s32=.int .i64 k/\k<=i/\i - k<=kx/\Hid (NewL w1 wr d (qao ⟨ts,a,c,rs⟩ l++(rs.take k).map fun r=>(qan r).map by8)))
     case atStart=>exact⟨0,rfl,Nat.zero_le _,by omega,(by rw[List.take_zero,List.map_nil,List.append_nil];exact U)⟩
     case round =>
      obtain⟨k,rfl,hk,hg,J⟩:=hrel;clear U c3
      by_cases c7:k<i
      ·obtain⟨x,hx⟩:∃x,rs[k]?=some x:=⟨rs[k]'(by rw[F.out];exact c7),List.getElem?_eq_getElem _⟩
       have B:=q.out.rul.below J.out.bel;simp only at B;obtain⟨rb,o,xa,xc,c9,p0,p1,p2,O⟩:=B.at hx;subst c9;have b9:=hid (q.out.small.rl x (List.mem_of_getElem? hx))
       have HE:Hid ((qao ⟨ts,a,c,rs⟩ l++(rs.take k).map fun r=>(qan r).map by8)++[(qan x).map by8]=qao ⟨ts,a,c,rs⟩ l++(rs.take (k+1)).map fun r=>(qan r).map by8):=by
        show _=_;rw[zw hx,List.map_append,<-List.append_assoc];rfl
       have I:Hid (∀W:World,Below wr.heap.size wr W->Calls Tryz.prog 204 #[.pointer (some ⟨d,0,none⟩),.agg #[.string x.l,.slice xa x.r.length xc,.string x.p]] W fun e g=>e=.returned (.tuple #[])/\NewL w1 g d (qao ⟨ts,a,c,rs⟩ l++(rs.take (k+1)).map fun r=>(qan r).map by8)):=fun W y=>by
        have:=qlx x xa xc d _ w1 W (O.below y) b9.out (J.out.below y) (by rw[List.length_append,List.length_map,List.length_take,F.out];have:=a1.out;omega)
        rwa [HE.out]at this
       clear hx O B HE;go_wp2_with fail;refine(I.out _ (qb _ _)).mono ?_;rintro e w8 ⟨rfl,a7⟩;have b7:=hid a7;clear a7 I J;go_wp2_with fail;go_roundg (i - (k+1))
       case measure=>omega
       case rel=>exact⟨k+1,by simp,by omega,Nat.le_refl _,b7⟩
      ·obtain rfl:k=i:=by omega
       have E:Hid (NewL w1 wr d (yx ⟨ts,a,c,rs⟩ l)):=by
        have:=J.out
        rwa [<-F.out,List.take_length]at this
       clear J;go_wp2_with fail;go_meet;exact E
    case rest =>
     obtain⟨v,hB,b2,z,A⟩:=hcut.out
     have b1:tx (yx ⟨ts,a,c,rs⟩ l)≠[]:=by
      unfold yx qao;rw[qei,qei];intro h;have:=congrArg List.length h;simp[tx,qbr]at this
     have N:(tx (yx ⟨ts,a,c,rs⟩ l)).length<=100000000:=by
      have h1:=qh7 b2
      have h2:(yx ⟨ts,a,c,rs⟩ l).length<=212:=by
       unfold yx;rw[List.length_append,List.length_map];have:=a1.out;simp only;rw[F.out];omega
      omega
     have I:Hid (Calls Tryz.prog 205 #[.pointer (some ⟨d,0,none⟩)] wc fun e g=>e=.returned (.string T)/\Kept (Foot d v) wc g):=by
      have:=qd2 d v _ wc hB b1 N
      have e:(⟨(tx (yx ⟨ts,a,c,rs⟩ l)).toArray⟩:ByteArray)=T:=by rw[<-c5.out];apply qmh;rfl
      rwa [e]at this
     have HK:Hid (∀g,Kept (Foot d v) wc g->Below w.heap.size w g):=fun g hk=>D.out.trans ((z.trans (hk.below z.size (fun k hk hf=>by have:=A k hf;omega))).mono D.out.size)
     clear hB b2 z A b1 N hcut;go_wp2_with fail;refine I.out.mono ?_;rintro e w9 ⟨rfl,hK⟩;have E:=hid (HK.out _ hK);clear hK I;go_wp2_with fail;go_ret;exact⟨rfl,E.out⟩
structure OwnG (w:World) (base:Nat) (h:Hd) (G:Gm) (qs:List (Ru × Option Addr × Nat)):Prop where
 tok:w.ownsRow base 40 3 (.slice h.ta G.ts.length h.tc) G.ts.length (tokC G.ts)
 rul:w.ownsRow base 42 3 (.slice h.ra G.rs.length h.rc) G.rs.length (rulC qs)
 map:qs.map (·.1)=G.rs
 row:∀q∈qs,OwnS w base (.slice q.2.1 q.1.r.length q.2.2) q.1.r
theorem OwnG.isG{w:World}{a:Nat}{h:Hd}{G:Gm}{qs:List (Ru × Option Addr × Nat)}(o:OwnG w a h G qs)(s:Small G):IsG w h G:=⟨Row.of_own o.tok,⟨qs,o.map,Row.of_own o.rul,fun q b=>(o.row q b).row rfl⟩,s⟩
theorem OwnG.below{w d:World}{a:Nat}{h:Hd}{G:Gm}{qs:List (Ru × Option Addr × Nat)}(o:OwnG w a h G qs)(b:Below w.heap.size w d):OwnG d a h G qs :=
 ⟨qh o.tok (fun i c=>b.block i (World.ownsRow.lt o.tok i c).2),qh o.rul (fun i c=>b.block i (World.ownsRow.lt o.rul i c).2),o.map,fun q f=>(o.row q f).below b⟩
def bN:ByteArray:=⟨#[78]⟩
def bP:ByteArray:=⟨#[80]⟩
def bM:ByteArray:=⟨#[77]⟩
def bE:ByteArray:=⟨#[101]⟩
def e0:ByteArray:=⟨#[]⟩
def q9:Gm:=⟨[⟨bN,0,0⟩,⟨bP,1,1⟩,⟨bM,2,1⟩],e0,0,[⟨bE,[bE,bP,bE],e0⟩,⟨bE,[bE,bM,bE],e0⟩,⟨bE,[bN],e0⟩]⟩
theorem qap:Small q9:=by
 have f:bN.size<=100:=by decide
 have g:bP.size<=100:=by decide
 have d:bM.size<=100:=by decide
 have a:bE.size<=100:=by decide
 have c:e0.size<=100:=by decide
 refine⟨by decide,by decide,c,?_,?_⟩
 ·intro t i;simp only[q9,List.mem_cons,List.not_mem_nil,or_false]at i
  rcases i with rfl | rfl | rfl
  ·exact f
  ·exact g
  ·exact d
 ·intro r h;simp only[q9,List.mem_cons,List.not_mem_nil,or_false]at h
  rcases h with rfl | rfl | rfl
  all_goals
   refine⟨a,c,by decide,?_⟩;intro x b;simp only[List.mem_cons,List.not_mem_nil,or_false]at b
  ·rcases b with rfl | rfl | rfl
   ·exact a
   ·exact g
   ·exact a
  ·rcases b with rfl | rfl | rfl
   ·exact a
   ·exact d
   ·exact a
  ·subst b;exact f
theorem yh(w:World)(a E k n:Nat)(cs:List Value)(c:a<=w.heap.size)(b:cs.length=n * k)(d:n<=1000):(w.alloc (.cells cs.toArray E)).ownsRow a E k (.slice (some ⟨w.heap.size,0,none⟩) n n) n cs:=by
 refine⟨b,.inr ⟨w.heap.size,n,cs.toArray,rfl,c,heap_alloc_new _ _,Nat.le_refl _,by unfold maxLen;omega,by simp[b],?_⟩⟩
 rw[List.toList_toArray,List.take_of_length_le (by omega)]
def qnr (n:Nat):Hd:=⟨some ⟨n+1,0,none⟩,3,some ⟨n+1+1+1+1+1,0,none⟩,3⟩
def qcl (n:Nat):List (Ru × Option Addr × Nat):=[(⟨bE,[bE,bP,bE],e0⟩,some ⟨n+1+1,0,none⟩,3),(⟨bE,[bE,bM,bE],e0⟩,some ⟨n+1+1+1,0,none⟩,3),(⟨bE,[bN],e0⟩,some ⟨n+1+1+1+1,0,none⟩,1)]
def qns (w:World):World:=(((((w.alloc (.cells #[.slice (some ⟨w.heap.size+1,0,none⟩) 3 3,.string e0,.int .i64 0,.slice (some ⟨w.heap.size+1+1+1+1+1,0,none⟩) 3 3] 25)).alloc (.cells (tokC q9.ts).toArray 40)).alloc (.cells (strC [bE,bP,bE]).toArray 9)).alloc (.cells (strC [bE,bM,bE]).toArray 9)).alloc (.cells (strC [bN]).toArray 9)).alloc (.cells (rulC (qcl w.heap.size)).toArray 42)
theorem qqj(w:World):OwnG (qns w) w.heap.size (qnr w.heap.size) q9 (qcl w.heap.size)/\Below w.heap.size w (qns w):=by
 unfold qns;generalize l:w.alloc (.cells #[.slice (some ⟨w.heap.size+1,0,none⟩) 3 3,.string e0,.int .i64 0,.slice (some ⟨w.heap.size+1+1+1+1+1,0,none⟩) 3 3] 25)=h
 have s0:h.heap.size=w.heap.size+1:=by rw[<-l];exact qz _ _
 have s:Below w.heap.size w h:=by rw[<-l];exact qb _ _
 generalize b:h.alloc (.cells (tokC q9.ts).toArray 40)=w1
 have s1:w1.heap.size=w.heap.size+1+1:=by rw[<-b,qz,s0]
 have t:Below h.heap.size h w1:=by rw[<-b];exact qb _ _
 have p:w1.ownsRow w.heap.size 40 3 (.slice (some ⟨w.heap.size+1,0,none⟩) 3 3) 3 (tokC q9.ts):=by
  rw[<-b,<-s0];exact yh h _ 40 3 3 _ (by omega) rfl (by omega)
 generalize c:w1.alloc (.cells (strC [bE,bP,bE]).toArray 9)=w2
 have s2:w2.heap.size=w.heap.size+1+1+1:=by rw[<-c,qz,s1]
 have u:Below w1.heap.size w1 w2:=by rw[<-c];exact qb _ _
 have x:OwnS w2 w.heap.size (.slice (some ⟨w.heap.size+1+1,0,none⟩) 3 3) [bE,bP,bE]:=by
  rw[<-c,<-s1];exact yh w1 _ 9 1 3 (strC [bE,bP,bE]) (by omega) rfl (by omega)
 generalize d:w2.alloc (.cells (strC [bE,bM,bE]).toArray 9)=g
 have s3:g.heap.size=w.heap.size+1+1+1+1:=by rw[<-d,qz,s2]
 have n:Below w2.heap.size w2 g:=by rw[<-d];exact qb _ _
 have y:OwnS g w.heap.size (.slice (some ⟨w.heap.size+1+1+1,0,none⟩) 3 3) [bE,bM,bE]:=by
  rw[<-d,<-s2];exact yh w2 _ 9 1 3 (strC [bE,bM,bE]) (by omega) rfl (by omega)
 generalize f:g.alloc (.cells (strC [bN]).toArray 9)=a
 have s4:a.heap.size=w.heap.size+1+1+1+1+1:=by rw[<-f,qz,s3]
 have m:Below g.heap.size g a:=by rw[<-f];exact qb _ _
 have z:OwnS a w.heap.size (.slice (some ⟨w.heap.size+1+1+1+1,0,none⟩) 1 1) [bN]:=by
  rw[<-f,<-s3];exact yh g _ 9 1 1 (strC [bN]) (by omega) rfl (by omega)
 have r:(a.alloc (.cells (rulC (qcl w.heap.size)).toArray 42)).ownsRow w.heap.size 42 3 (.slice (some ⟨w.heap.size+1+1+1+1+1,0,none⟩) 3 3) 3 (rulC (qcl w.heap.size)):=by
  have:=yh a w.heap.size 42 3 3 (rulC (qcl w.heap.size)) (by omega) rfl (by omega)
  rwa [s4]at this
 have k:Below a.heap.size a (a.alloc (.cells (rulC (qcl w.heap.size)).toArray 42)):=qb _ _;generalize a.alloc (.cells (rulC (qcl w.heap.size)).toArray 42)=A at r k ⊢;have j:=qd (qd (qd u n) m) k;refine⟨⟨qh p (fun i v=>j.block i (World.ownsRow.lt p i v).2),r,rfl,?_⟩,qd s (qd t j)⟩;intro q o;simp only[qcl,List.mem_cons,List.not_mem_nil,or_false]at o
 rcases o with rfl | rfl | rfl
 ·exact((x.below n).below m).below k
 ·exact(y.below m).below k
 ·exact z.below k
theorem qdi(w:World):Calls Tryz.prog 18 #[] w fun e a=>∃h qs,e=.returned (gv h q9)/\OwnG a w.heap.size h q9 qs/\Below w.heap.size w a:=by
 have b:=hid (qqj w);go_enter Tryz.func18,Tryz.ntmps18;go_wp2;refine bodyPost_ret (v:=gv (qnr w.heap.size) q9) (by simp[results,Tryz.results18,go_sem,gv,qnr,q9,e0]) rfl ?_;exact⟨_,_,rfl,b.out⟩
theorem qmq{w:World}{a E k g n b j:Nat}{cs:List Value}{u:Value}(h:w.ownsRow a E k (.slice (some ⟨g,0,none⟩) n b) n cs):
  (w.setCell ⟨g,j,none⟩ u).ownsRow a E k (.slice (some ⟨g,0,none⟩) n b) n (cs.set j u):=by
 refine⟨by rw[List.length_set];exact h.1,?_⟩
 rcases h.2 with ⟨hv,-⟩ | ⟨g',cap',cur,hv,hb,hh,hn,hm,hs,ht⟩
 ·cases hv
 ·cases hv
  refine .inr ⟨g,b,cur.setIfInBounds j u,rfl,hb,?_,hn,hm,by simp[hs],?_⟩
  ·rw[setCell_eq_setRow w g j cur E (0,0) _ hh];exact setRow_heap w g cur _ E _ hh
  ·rw[Array.toList_setIfInBounds,List.take_set,ht]
theorem qft{w:World}{f b E l k p n q:Nat}{v v':Value}{cs i:List Value}(h:w.ownsRow f E k v n cs)(m:w.ownsRow b l p v' q i)(o:E≠l){g:Nat}(j:v.ownBlock=some g):v'.ownBlock≠some g:=by
 intro d
 rcases h.2 with ⟨rfl,-⟩ | ⟨a,c,cur,rfl,-,hh,-⟩
 ·cases j
 ·rcases m.2 with ⟨rfl,-⟩ | ⟨a',c',cur',rfl,-,hh',-⟩
  ·cases d
  ·simp only[Value.ownBlock,Option.some.injEq]at j d;subst j;subst d;rw[hh]at hh';simp only[Option.some.injEq,Obj.cells.injEq]at hh';exact o hh'.2.1
theorem qqk{w:World}{a E k g n b j:Nat}{cs:List Value}{u:Value}(h:w.ownsRow a E k (.slice (some ⟨g,0,none⟩) n b) n cs)(c:cs[j]?=some u):w.cell? ⟨g,j,none⟩=some u/\w.frozen? ⟨g,j,none⟩=false:=by
 have:=World.ownsRow.cells h (g:=g) rfl j u c;rw[Addr.add_lit,Nat.zero_add]at this;refine⟨this,?_⟩
 rcases h.2 with ⟨hv,-⟩ | ⟨g',cap',cur,hv,hb,hh,-⟩
 ·cases hv
 ·cases hv
  exact qj hh j
theorem qh8{α:Type}(f:α->List Value)(a:∀x,(f x).length=3)(y:α)(j:Nat)(u:Value):∀(l:List α) (i:Nat) (x:α),l[i]?=some x->j<3->(f x).set j u=f y->(l.flatMap f).set (i * 3+j) u=(l.set i y).flatMap f
 | [],i,x,h,_,_=>by cases h
 | z :: r,0,x,h,hj,he=>by
  cases h
  rw[List.set_cons_zero,List.flatMap_cons,List.flatMap_cons,Nat.zero_mul,Nat.zero_add,List.set_append_left _ _ (by rw[a];exact hj),he]
 | z :: r,i+1,x,h,hj,he=>by
  rw[List.set_cons_succ,List.flatMap_cons,List.flatMap_cons,List.set_append_right _ _ (by rw[a];omega),a,show(i+1) * 3+j - 3=i * 3+j by omega]
  rw[qh8 f a y j u r i x h hj he]
theorem OwnG.setRule{w:World}{c g:Nat}{h:Hd}{G:Gm}{qs:List (Ru × Option Addr × Nat)}(o:OwnG w c h G qs)(m:h.ra=some ⟨g,0,none⟩){i j:Nat}{q:Ru × Option Addr × Nat}(x:qs[i]?=some q)(A:j<3)(f:Ru)(u:Value)(B:f.r=q.1.r)(z:([.string q.1.l,.slice q.2.1 q.1.r.length q.2.2,.string q.1.p]:List Value).set j u=[.string f.l,.slice q.2.1 f.r.length q.2.2,.string f.p]):
  OwnG (w.setCell ⟨g,i * 3+j,none⟩ u) c h ⟨G.ts,G.s,G.e,G.rs.set i f⟩ (qs.set i (f,q.2)):=by
 have a:=o.rul;rw[m]at a;refine⟨?_,?_,?_,?_⟩
 ·refine qh o.tok (fun b t=>Below.heap_setCell _ _ _ _ (fun e=>?_));simp only at e;subst e;exact qft a o.tok (by decide) (g:=b) rfl t
 ·have k:=qmq (u:=u) (j:=i * 3+j) a;have y:(rulC qs).set (i * 3+j) u=rulC (qs.set i (f,q.2)):=qh8 _ (fun _=>rfl) (f,q.2) j u qs i q x A z;rw[y]at k;simp only[List.length_set];rw[m];exact k
 ·simp only;rw[List.map_set,o.map]
 ·intro n v
  have d:OwnS w c (.slice n.2.1 n.1.r.length n.2.2) n.1.r:=by
   rcases List.mem_or_eq_of_mem_set v with k | k
   ·exact o.row n k
   ·subst k;simp only;rw[B];exact o.row q (List.mem_of_getElem? x)
  refine qh d (fun b t=>Below.heap_setCell _ _ _ _ (fun e=>?_));simp only at e;subst e;exact qft a d (by decide) (g:=b) rfl t
theorem qkb(G:Gm)(h:Hd)(w:World)(f:IsG w h G)(s:ByteArray)(k:Nat)(t:Tk)(q:G.ts[k]?=some t)(R:t.n=s):
  Calls Tryz.prog 40 #[gv h G,.string s] w fun e V=>∃m:Nat,e=.returned (.int .i64 m)/\(m=k↔¬hasN (G.ts.take k) s)/\Below w.heap.size w V:=by
 obtain⟨ts,z,p,rs⟩:=G;obtain⟨d,a,r,x⟩:=h;simp only at q;have P:=hid2 q R;have F:=(List.getElem?_eq_some_iff.1 q).1
 have I:ts.length<=a/\a<=9223372036854775807:=by have T:=f.tok.le;have Q:=f.tok.max;simp only at T Q;unfold maxLen at Q;omega
 have L:ts.length<=100:=f.small.nt;have C:Hid (Row w 3 d ts.length a (tokC ts)):=f.tok;unfold gv;simp only;clear f q R
 obtain⟨n,O⟩:∃n,Hid (ts.length=n):=⟨_,rfl⟩
 rw[O.out]at C I L F ⊢;generalize rs.length=y;go_enter Tryz.func40,Tryz.ntmps40
 go_upto_region 1 with fail
 have c0:(w.alloc (.cells #[.slice d n a,.string z,.int .i64 p,.slice r y x] 25)).cell? ⟨w.heap.size,0,none⟩=some (.slice d n a):=by rw[World.cell?_alloc_mark];rfl
 have A:Hid (Below w.heap.size w (w.alloc (.cells #[.slice d n a,.string z,.int .i64 p,.slice r y x] 25))/\Row (w.alloc (.cells #[.slice d n a,.string z,.int .i64 p,.slice r y x] 25)) 3 d n a (tokC ts)):=⟨qb _ _,C.out.below (qb _ _)⟩
 generalize w.alloc (.cells #[.slice d n a,.string z,.int .i64 p,.slice r y x] 25)=Z at c0 A ⊢;generalize w.heap.size=X at c0 ⊢;clear C;go_wp2
 go_loop [5] (fun v=>∃i:Nat,i<=k/\v=.int .i64 i/\Hid (∀j u,j<i->ts[j]?=some u->u.n≠s)) (fun v=>n - (intOf v).toNat)
 case atStart=>exact⟨0,Nat.zero_le _,rfl,(fun j u h=>absurd h (Nat.not_lt_zero _):∀j u,j<0->ts[j]?=some u->u.n≠s)⟩
 case round =>
  obtain⟨i,Y,rfl,J⟩:=hrel
  have H:i<n:=by omega
  obtain⟨u,M⟩:∃u,ts[i]?=some u:=⟨ts[i]'(by rw[O.out];exact H),List.getElem?_eq_getElem _⟩
  obtain⟨b,o,rfl,S,-,-⟩:=jd A.out.2 M;have D:=hid M;clear M
  by_cases c:u.n=s
  ·have E:=xv c
   have B:Hid (i=k↔¬hasN (ts.take k) s):=by
    constructor
    ·rintro rfl ⟨v,l,N⟩;obtain⟨j,g⟩:=List.getElem?_of_mem l;rw[List.getElem?_take]at g
     split at g
     ·exact J.out j v (by assumption) g N
     ·cases g
    ·intro K
     rcases Nat.lt_or_ge i k with h | h
     ·exact absurd ⟨u,List.mem_of_getElem? (i:=i) (by rw[List.getElem?_take,if_pos h];exact D.out),c⟩ K
     ·omega
   generalize u.n=un at S E;clear c;go_wp2;go_ret;exact⟨i,rfl,B.out,A.out.1⟩
  ·have E:=xu c
   have U:i<k:=by
    rcases Nat.lt_or_ge i k with h | h
    ·exact h
    ·have:i=k:=by omega
     subst this;have:=D.out;rw[P.out.1]at this
     cases this
     exact absurd P.out.2 c
   have B:Hid (∀j u,j<i+1->ts[j]?=some u->u.n≠s):=fun j v g l=>by
    rcases Nat.lt_or_ge j i with h | h
    ·exact J.out j v h l
    ·have:j=i:=by omega
     subst this;rw[D.out]at l
     cases l
     exact c
   generalize u.n=un at S E;clear c;go_wp2
   go_round
   case rel=>exact⟨i+1,by omega,by simp,B⟩
   case measure=>simp[intOf];omega
def TopL (l:List Int) (m:Nat):Prop:=m<9/\(∀j,m<j->j<9->(l[j]?).getD 0=0)/\(m=0\/(l[m]?).getD 0≠0)
theorem qox:TopL jw 0:=by
 refine⟨by omega,fun j b a=>?_,.inl rfl⟩
 match j,a with
 | 0,_=>rfl
 | 1,_=>rfl
 | 2,_=>rfl
 | 3,_=>rfl
 | 4,_=>rfl
 | 5,_=>rfl
 | 6,_=>rfl
 | 7,_=>rfl
 | 8,_=>rfl
theorem qdj(l:List Int)(m j:Nat)(a:Int)(h:m<l.length):((l.set m a)[j]?).getD 0=if j=m then a else (l[j]?).getD 0:=by
 rw[List.getElem?_set]
 by_cases b:m=j
 ·subst b;simp[h]
 ·rw[if_neg b,if_neg (by omega)]
theorem qql{l:List Int}{m q:Nat}{a:Int}(h:TopL l m)(n:l.length=9)(o:q<9)(g:(q=0/\a=0)\/(1<=q/\a≠0)):TopL (l.set q a) (max m q):=by
 obtain⟨k,f,b⟩:=h;refine⟨by omega,fun j i c=>?_,?_⟩
 ·rw[qdj l q j a (by omega),if_neg (by omega)];exact f j (by omega) c
 ·by_cases d:m<=q
  ·rw[Nat.max_eq_right d]
   rcases g with ⟨h0,-⟩ | ⟨hq1,hane⟩
   ·exact .inl h0
   ·right;rw[qdj l q q a (by omega),if_pos rfl];exact hane
  ·rw[Nat.max_eq_left (by omega)]
   rcases b with b | b
   ·exact .inl b
   ·right;rw[qdj l q m a (by omega),if_neg (by omega)];exact b
theorem qoy{l:List Int}{m:Nat}(h:TopL l m):qbm l↔∀i,1<=i->i<=m->(l[i]?).getD 0≠0:=by
 obtain⟨s,g,a⟩:=h
 constructor
 ·intro n i b p
  rcases a with a | a
  ·omega
  ·have:∀d i,i+d=m->1<=i->(l[i]?).getD 0≠0:=by
    intro d
    induction d with
    | zero=>intro i o _;rw[show i=m by omega];exact a
    | succ d ih =>
     intro i o r;have:=n (i+1) (by omega) (by omega) (ih (i+1) (by omega) (by omega))
     rwa [Nat.add_sub_cancel]at this
   exact this (m - i) i (by omega) b
 ·intro j k q c f
  rcases Nat.lt_or_ge m k with h | h
  ·exact absurd (g k h c) f
  ·exact j (k - 1) (by omega) (by omega)
structure RM (ts:List Tk) (w wr:World) (k m:Nat) (l:List Int):Prop where
 lev:levF (ts.take k)=some l
 top:TopL l m
 names:xo ts k
 zero:(l[0]?).getD 0=0
 arr:wr.heap[w.heap.size]?=some (.cells (ar9 l) 87 (0,0))
 bel:Below w.heap.size w wr
theorem RM.step{ts:List Tk}{w wr a:World}{k m:Nat}{l:List Int}(h:RM ts w wr k m l)(b:Below wr.heap.size wr a):RM ts w a k m l :=
 ⟨h.lev,h.top,h.names,h.zero,qf b h.arr,qd h.bel b⟩
theorem RM.cell{ts:List Tk}{w wr:World}{k m:Nat}{l:List Int}(h:RM ts w wr k m l){q:Nat}(a:q<9):wr.cell? ⟨w.heap.size,q,none⟩=some (.int .i64 ((l[q]?).getD 0)):=by
 rw[qe h.arr];exact qgj (yv h.lev) a
theorem RM.put{ts:List Tk}{w wr:World}{k b m q:Nat}{l:List Int}{a:Int}(h:RM ts w wr k m l)(f:levF (ts.take b)=some (l.set q a))(g:xo ts b)(d:q<9)(c:(q=0/\a=0)\/(1<=q/\a≠0)):RM ts w (wr.setCell ⟨w.heap.size,q,none⟩ (.int .i64 a)) b (max m q) (l.set q a):=by
 refine⟨f,qql h.top (yv h.lev) d c,g,?_,?_,h.bel.setCell (p:=⟨w.heap.size,q,none⟩) (Nat.le_refl _) _⟩
 ·rw[qdj l q 0 a (by rw[yv h.lev];exact d)]
  split
  ·rcases c with h1 | h1
   ·exact h1.2
   ·omega
  ·exact h.zero
 rw[setCell_eq_setRow wr w.heap.size q _ 87 (0,0) _ h.arr,qmp];exact setRow_heap _ _ _ _ 87 _ h.arr
theorem zg{w:World}{a p:Addr}{v u:Value}(h:w.cell? a=some v)(b:a.block≠p.block):(w.setCell p u).cell? a=some v:=by
 rw[<-h]
 unfold World.cell?
 rw[Below.heap_setCell _ _ _ _ b]
theorem qoz(n:ByteArray)(l a:Int):(¬LevP ⟨n,l,a⟩/\(l<0\/(8<l)\/(l=0/\a≠0)\/(1<=l/\l<=8/\a<1)\/(1<=l/\l<=8/\3<a)))\/(LevP ⟨n,l,a⟩/\((l=0/\a=0)\/(1<=l/\l<=8/\1<=a/\a<=3))):=by
 unfold LevP;simp only;omega
theorem qnt:qj5 20:=by
 intro G h w r hG hp;obtain⟨ts,g,I,rs⟩:=G;obtain⟨ta,tc,ra,rc⟩:=h;have HP:=hid hp
 have g0:ts.length<=tc/\tc<=9223372036854775807:=by have h1:=hG.tok.le;have h2:=hG.tok.max;simp only at h1 h2;unfold maxLen at h2;omega
 have d8:=kv hG.rul;simp only at d8;have g7:ts.length<=100:=hG.small.nt;have g8:rs.length<=200:=hG.small.nr;have HG:=hid hG
 have M:Hid (∀W:World,Calls Tryz.prog 39 #[.string g] W fun e w'=>e=.returned (.bool (nameOk (by8 g)))/\w'=W):=fun W=>yu g W (by have:=hG.small.st;simp only at this;omega)
 unfold gv;simp only;clear hG hp
 obtain⟨H,U⟩:∃n,Hid (ts.length=n):=⟨_,rfl⟩
 obtain⟨F,S⟩:∃n,Hid (rs.length=n):=⟨_,rfl⟩
 rw[U.out]at g0 g7 ⊢;rw[S.out]at d8 g8 ⊢;obtain⟨x,D⟩:=zv (¬(H<=40/\F<=100/\0<=I/\I<=9999/\xw g));have HX:=hid D;clear D;go_enter Tryz.func20,Tryz.ntmps20
 go_upto_region 1 with fail
 have c0:(w.alloc (.cells #[.slice ta H tc,.string g,.int .i64 I,.slice ra F rc] 25)).cell? ⟨w.heap.size,0,none⟩=some (.slice ta H tc):=by rw[World.cell?_alloc_mark];rfl
 have c1:(w.alloc (.cells #[.slice ta H tc,.string g,.int .i64 I,.slice ra F rc] 25)).cell? ⟨w.heap.size,1,none⟩=some (.string g):=by rw[World.cell?_alloc_mark];rfl
 have c2:(w.alloc (.cells #[.slice ta H tc,.string g,.int .i64 I,.slice ra F rc] 25)).cell? ⟨w.heap.size,2,none⟩=some (.int .i64 I):=by rw[World.cell?_alloc_mark];rfl
 have c3:(w.alloc (.cells #[.slice ta H tc,.string g,.int .i64 I,.slice ra F rc] 25)).cell? ⟨w.heap.size,3,none⟩=some (.slice ra F rc):=by rw[World.cell?_alloc_mark];rfl
 have HB:Hid (Below w.heap.size w (w.alloc (.cells #[.slice ta H tc,.string g,.int .i64 I,.slice ra F rc] 25))/\IsG (w.alloc (.cells #[.slice ta H tc,.string g,.int .i64 I,.slice ra F rc] 25)) ⟨ta,tc,ra,rc⟩ ⟨ts,g,I,rs⟩):=⟨qb _ _,HG.out.below (qb _ _)⟩
 generalize w.alloc (.cells #[.slice ta H tc,.string g,.int .i64 I,.slice ra F rc] 25)=R at c0 c1 c2 c3 HB ⊢;generalize w.heap.size=gb at c0 c1 c2 c3 ⊢;clear HG
 go_cut [41] (fun s wd=>s=.bool x/\wd=R)
 case first =>
  by_cases h6:40<H
  ·have a:=hid (xh HX.out (by omega))
   have d5:(40:Int)<(H:Int):=by omega
   go_wp2_with fail;go_meet;exact⟨by rw[a.out],rfl⟩
  have d5:¬(40:Int)<(H:Int):=by omega
  by_cases h5:100<F
  ·have a:=hid (xh HX.out (by omega))
   have c4:(100:Int)<(F:Int):=by omega
   go_wp2_with fail;go_meet;exact⟨by rw[a.out],rfl⟩
  have c4:¬(100:Int)<(F:Int):=by omega
  by_cases h7:I<0
  ·have a:=hid (xh HX.out (by omega));go_wp2_with fail;go_meet;exact⟨by rw[a.out],rfl⟩
  by_cases h8:9999<I
  ·have a:=hid (xh HX.out (by omega));go_wp2_with fail;go_meet;exact⟨by rw[a.out],rfl⟩
  have c:(xw g/\(g.toList == [])=true)\/(xw g/\(g.toList == [])=false/\nameOk (by8 g)=true)\/(¬xw g/\(g.toList == [])=false/\nameOk (by8 g)=false):=by
   unfold xw kd;rw[<-zy]
   cases (g.toList == []) <;> cases nameOk (by8 g) <;> simp
  rcases c with ⟨c,hs3⟩ | ⟨c,hs3,hs4⟩ | ⟨c,hs3,hs4⟩
  ·have a:=hid (zj HX.out (fun h=>h ⟨by omega,by omega,by omega,by omega,c⟩));clear c;go_wp2_with fail;go_meet;exact⟨by rw[a.out],rfl⟩
  ·have a:=hid (zj HX.out (fun h=>h ⟨by omega,by omega,by omega,by omega,c⟩));rw[hs4]at M;clear c;go_wp2_with(go_at_call 39;refine(M.out _).mono ?_;rintro e w1 ⟨rfl,rfl⟩)
   go_meet;exact⟨by rw[a.out],rfl⟩
  ·have a:=hid (xh HX.out (fun h=>c h.2.2.2.2));rw[hs4]at M;clear c;go_wp2_with(go_at_call 39;refine(M.out _).mono ?_;rintro e w1 ⟨rfl,rfl⟩)
   go_meet;exact⟨by rw[a.out],rfl⟩
 case rest =>
  obtain⟨rfl,f2⟩:=hcut;subst wc
  cases x
  rotate_left
  ·have a:=hid (zj HP.out (fun h=>HX.out.1 rfl ⟨by rw[<-U.out];exact h.nt,by rw[<-S.out];exact h.nr,h.e0,h.e1,h.st⟩))
   go_wp2_with fail;go_ret;exact⟨by rw[a.out];rfl,HB.out.1⟩
  ·have a3:Hid (r=true↔TokP ts/\∀r∈rs,j5 r):=by
    have hc:H<=40/\F<=100/\0<=I/\I<=9999/\xw g:=by
     rcases Classical.em (H<=40/\F<=100/\0<=I/\I<=9999/\xw g) with h | h
     ·exact h
     ·have:=HX.out.2 h;cases this
    exact HP.out.trans ⟨fun h=>⟨h.tk,h.rl⟩,fun h=>⟨by simp only;rw[U.out];exact hc.1,by simp only;rw[S.out];exact hc.2.1,hc.2.2.1,hc.2.2.2.1,hc.2.2.2.2,h.1,h.2⟩⟩
   have C0:Hid (∀W:World,Below R.heap.size R W->W.cell? ⟨gb,0,none⟩=some (.slice ta H tc)):=fun W hW=>qt hW c0
   have C1:Hid (∀W:World,Below R.heap.size R W->W.cell? ⟨gb,1,none⟩=some (.string g)):=fun W hW=>qt hW c1
   have C2:Hid (∀W:World,Below R.heap.size R W->W.cell? ⟨gb,2,none⟩=some (.int .i64 I)):=fun W hW=>qt hW c2
   have C3:Hid (∀W:World,Below R.heap.size R W->W.cell? ⟨gb,3,none⟩=some (.slice ra F rc)):=fun W hW=>qt hW c3
   clear HP HX M c0 c1 c2 c3
   go_upto_block 0 with fail
   go_cut [4] (fun s4 wd=>∃m:Nat,s4=.int .i64 m/\Hid (∃l,RM ts R wd H m l))
   case first =>
    go_wp2_with fail
    go_loopg [4,5] H (fun kx s4 s5 wr=>∃k m:Nat,s4=.int .i64 m/\s5=.int .i64 k/\k<=H/\m<=8/\H - k<=kx/\Hid (∃l,RM ts R wr k m l))
    case atStart=>exact⟨0,0,rfl,rfl,Nat.zero_le _,Nat.zero_le _,by omega,(⟨jw,rfl,qox,xo.zero ts,rfl,heap_alloc_new _ _,qb _ _⟩:∃l,RM ts R _ 0 0 l)⟩
    case round =>
     obtain⟨k,m,rfl,rfl,hk,d9,hg,J⟩:=hrel;obtain⟨l,JJ⟩:=J.out;have JM:=hid JJ;clear J JJ;have c0:=C0.out wr JM.out.bel
     by_cases a5:k<H
     ·obtain⟨t,ht⟩:∃t,ts[k]?=some t:=⟨ts[k]'(by rw[U.out];exact a5),List.getElem?_eq_getElem _⟩
      have f:=HB.out.2.tok.below JM.out.bel;simp only at f;obtain⟨b,o,g9,p0,p1,p2⟩:=jd f ht;subst g9;have T:=hid ht;have a8:=HB.out.2.small.tk t (List.mem_of_getElem? ht);obtain⟨B,d,C⟩:=t;simp only at p0 p1 p2 a8;clear ht f
      go_upto_region 9 with fail
      have Y:Hid (RM ts R (wr.alloc (.cells #[.string B,.int .i64 d,.int .i64 C] 40)) k m l):=JM.out.step (qb _ _)
      have d0:(wr.alloc (.cells #[.string B,.int .i64 d,.int .i64 C] 40)).cell? ⟨wr.heap.size,0,none⟩=some (.string B):=by rw[World.cell?_alloc_mark];rfl
      have Z:(wr.alloc (.cells #[.string B,.int .i64 d,.int .i64 C] 40)).cell? ⟨wr.heap.size,1,none⟩=some (.int .i64 d):=by rw[World.cell?_alloc_mark];rfl
      have d2:(wr.alloc (.cells #[.string B,.int .i64 d,.int .i64 C] 40)).cell? ⟨wr.heap.size,2,none⟩=some (.int .i64 C):=by rw[World.cell?_alloc_mark];rfl
      generalize wr.alloc (.cells #[.string B,.int .i64 d,.int .i64 C] 40)=wq at Y d0 Z d2 ⊢;have d3:=hid ((Array.getElem?_eq_some_iff.1 JM.out.arr).1);generalize wr.heap.size=tb at d0 Z d2 d3 ⊢;clear p0 p1 p2 JM c0;have c0:=C0.out wq Y.out.bel;have c1:=C1.out wq Y.out.bel;have c2:=C2.out wq Y.out.bel;have c3:=C3.out wq Y.out.bel;obtain⟨y,hy⟩:=zv (¬(kd B/\¬hasN (ts.take k) B/\LevP ⟨B,d,C⟩));have O:=hid hy;clear hy
      have H1:Hid (∀W:World,Calls Tryz.prog 39 #[.string B] W fun e w'=>e=.returned (.bool (nameOk (by8 B)))/\w'=W):=fun W=>yu B W (by omega)
      have H2:Hid (Calls Tryz.prog 40 #[.agg #[.slice (some ⟨b,o,none⟩) H tc,.string g,.int .i64 I,.slice ra F rc],.string B] wq fun e w'=>∃m:Nat,e=.returned (.int .i64 m)/\(m=k↔¬hasN (ts.take k) B)/\Below wq.heap.size wq w'):=by
       have:=qkb ⟨ts,g,I,rs⟩ ⟨some ⟨b,o,none⟩,tc,ra,rc⟩ wq (HB.out.2.below Y.out.bel) B k ⟨B,d,C⟩ T.out rfl;unfold gv at this;simp only at this
       rwa [U.out,S.out]at this
      go_cut [100] from 42 to 128 (fun s wd=>s=.bool y/\Hid (Below wq.heap.size wq wd))
      case first =>
       cases a7:nameOk (by8 B)
       ·have a:=hid (xh O.out (fun h=>by have:=h.1;unfold kd at this;rw[a7]at this;cases this))
        rw[a7]at H1;clear H2 a7;go_wp2_with(go_at_call 39;refine(H1.out _).mono ?_;rintro e w1 ⟨rfl,rfl⟩)
        go_meet;exact⟨by rw[a.out],Below.refl _ _⟩
       ·rw[a7]at H1;go_wp2_with(go_at_call 39;refine(H1.out _).mono ?_;rintro e w1 ⟨rfl,rfl⟩)
        refine H2.out.mono ?_;rintro e w2 ⟨mk,rfl,f0,hB⟩;have q:=hid hB;have c8:=hid f0;have Z:=qt hB Z;have d2:=qt hB d2;clear hB f0 H1 H2 c0 c1 c2 c3 d0
        by_cases K:mk=k
        ·have f9:((mk:Int) != (k:Int))=false:=by simp[K]
         rcases qoz B d C with ⟨hno,Q⟩ | ⟨hyes,Q⟩
         ·have a:=hid (xh O.out (fun h=>hno h.2.2));clear hno K
          rcases Q with Q | Q | ⟨Q,ha⟩ | ⟨Q,hl2,ha⟩ | ⟨Q,hl2,ha⟩
          ·go_wp2_with fail;go_meet;exact⟨by rw[a.out],q.out⟩
          ·go_wp2_with fail;go_meet;exact⟨by rw[a.out],q.out⟩
          ·have b3:(d == 0)=true:=by simpa using Q
           have f7:(C != 0)=true:=by simpa using ha
           go_wp2_with fail;go_meet;exact⟨by rw[a.out],q.out⟩
          ·have b3:(d == 0)=false:=by simp;omega
           go_wp2_with fail;go_meet;exact⟨by rw[a.out],q.out⟩
          ·have b3:(d == 0)=false:=by simp;omega
           go_wp2_with fail;go_meet;exact⟨by rw[a.out],q.out⟩
         ·have a:=hid (zj O.out (fun h=>h ⟨a7,c8.out.1 K,hyes⟩));clear hyes K
          rcases Q with ⟨Q,ha⟩ | ⟨Q,hl2,ha,ha2⟩
          ·have b3:(d == 0)=true:=by simpa using Q
           have f7:(C != 0)=false:=by simpa using ha
           go_wp2_with fail;go_meet;exact⟨by rw[a.out],q.out⟩
          ·have b3:(d == 0)=false:=by simp;omega
           go_wp2_with fail;go_meet;exact⟨by rw[a.out];simp;omega,q.out⟩
        ·have f9:((mk:Int) != (k:Int))=true:=by simp;omega
         have a:=hid (xh O.out (fun h=>K (c8.out.2 h.2.1)));clear K;go_wp2_with fail;go_meet;exact⟨by rw[a.out],q.out⟩
      case rest =>
       obtain⟨rfl,q⟩:=hcut;have N:=hid (Y.out.step q.out);have Z:=qt q.out Z;have d2:=qt q.out d2;clear H1 H2 c0 c1 c2 c3 d0 Y q
       cases y
       rotate_left
       ·have a:Hid (r=false):=zj a3.out (fun h=>O.out.1 rfl ⟨(h.1.1 k _ T.out).1,fun hh=>qos T.out hh h.1,by
         obtain⟨l',a4,-⟩:=h.1.2
         rcases Classical.em (LevP ⟨B,d,C⟩) with h1 | h1
         ·exact h1
         ·have:=qdg (ts:=ts) (k:=k+1) (by rw[zw T.out,qcg,N.out.lev];unfold levS;simp[h1])
          rw[this]at a4;cases a4⟩)
        have L:=hid (qd HB.out.1 N.out.bel);clear O;go_wp2_with fail;go_ret;exact⟨by rw[a.out];rfl,L.out⟩
       ·have HL:Hid (kd B/\¬hasN (ts.take k) B/\LevP ⟨B,d,C⟩):=by
         rcases Classical.em (kd B/\¬hasN (ts.take k) B/\LevP ⟨B,d,C⟩) with h | h
         ·exact h
         ·have:=O.out.2 h;cases this
        have f5:=hid (N.out.names.succ T.out HL.out.1 HL.out.2.1);clear O
        have i1:0<=d/\d<9:=by
         have:=HL.out.2.2;unfold LevP at this;simp only at this;omega
        have f1:d.toNat<9:=by omega
        have b4:Hid ((d.toNat=0/\C=0)\/(1<=d.toNat/\C≠0)):=by
         have:=HL.out.2.2;unfold LevP at this;simp only at this;show _\/_;omega
        have a2:Hid (levF (ts.take (k+1))=if (l[d.toNat]?).getD 0=0\/(l[d.toNat]?).getD 0=C then some (l.set d.toNat C) else none):=by
         show _=_;rw[zw T.out,qcg,N.out.lev];unfold levS at9;simp[HL.out.2.2]
        have HZ:Hid (d<=0->(l[d.toNat]?).getD 0=0\/(l[d.toNat]?).getD 0=C):=fun h=>by
         have h0:d.toNat=0:=by omega
         have:=N.out.zero;rw[h0];exact .inl this
        have D:=N.out.cell f1;obtain⟨z,hz⟩:=zv (¬((l[d.toNat]?).getD 0=0\/(l[d.toNat]?).getD 0=C));have P:=hid hz;generalize (l[d.toNat]?).getD 0=x at D a2 HZ P;clear hz f1;have g1:=zi Z;have g2:=zi d2;have gx:=zi D
        obtain⟨wy,i6⟩:∃wy,wy=wc:=⟨_,rfl⟩
        subst wc
        go_upto_region 11 with fail
        go_cut [119] from 42 to 128 (fun s wd=>s=.bool z/\Hid (Below wy.heap.size wy wd))
        case first =>
         have b8:Hid (∀n os,Below wy.heap.size wy (onto wy n os)):=fun n os=>ke wy n os
         by_cases g4:d<=0
         ·have a:=hid (zj P.out (fun h=>h (HZ.out g4)))
          have g5:¬0<d:=by omega
          refine zn (by kernel_rfl) ?_
          repeat (go_big_quiet_step (fail))
          refine wpQuiet_nil ?_;intro _ b0;obtain⟨⟨nq,f3⟩,a9⟩:=b0;subst a9;go_wp2_with fail;go_meet;exact⟨by rw[a.out],b8.out _ _⟩
         ·have g5:0<d:=by omega
          by_cases A:x=0
          ·have a:=hid (zj P.out (fun h=>h (.inl A)))
           have c6:(x != 0)=false:=by simpa using A
           clear A;refine zn (by kernel_rfl) ?_
           repeat (go_big_quiet_step (fail))
           refine wpQuiet_nil ?_;intro _ b0;obtain⟨⟨nq,f3⟩,a9⟩:=b0;subst a9;go_wp2_with fail;go_meet;exact⟨by rw[a.out],b8.out _ _⟩
          ·have c6:(x != 0)=true:=by simpa using A
           have a:Hid (z=(x != C)):=by
            show _=_;rw[Bool.eq_iff_iff,P.out];simp[A]
           clear A;refine zn (by kernel_rfl) ?_
           repeat (go_big_quiet_step (fail))
           refine wpQuiet_nil ?_;intro _ b0;obtain⟨⟨nq,f3⟩,a9⟩:=b0;subst a9;go_wp2_with fail;go_meet;exact⟨by rw[a.out],b8.out _ _⟩
        case rest =>
         obtain⟨rfl,a1⟩:=hcut;have b7:=hid (N.out.step a1.out);have Z:=qt a1.out Z;have d2:=qt a1.out d2;have D:=qt a1.out D;clear g1 g2 gx a1 N
         cases z
         rotate_left
         ·have a:Hid (r=false):=zj a3.out (fun h=>by
           obtain⟨l',a4,-⟩:=h.1.2;have:=qdg (ts:=ts) (k:=k+1) (by rw[a2.out,if_neg (P.out.1 rfl)])
           rw[this]at a4;cases a4)
          have L:=hid (qd HB.out.1 b7.out.bel);clear a2 P HZ HL b4;go_wp2_with fail;go_ret;exact⟨by rw[a.out];rfl,L.out⟩
         ·have c7:Hid (levF (ts.take (k+1))=some (l.set d.toNat C)):=by
           have hc:x=0\/x=C:=by
            rcases Classical.em (x=0\/x=C) with h | h
            ·exact h
            ·have:=P.out.2 h;cases this
           have:=a2.out
           rwa [if_pos hc]at this
          have fx:wc.frozen? ⟨R.heap.size,d.toNat,none⟩=false:=qj b7.out.arr _;have HM:=hid (b7.out.put c7.out f5.out (by omega) b4.out);have Z:=zg Z (p:=⟨R.heap.size,d.toNat,none⟩) (u:=.int .i64 C) (by have:=d3.out;simp only;omega)
          clear a2 P HZ HL b4 c7
          have g3:max m d.toNat<=8:=by omega
          go_wp2_with fail;go_roundg (H - (k+1))
          case measure=>omega
          case rel=>exact⟨k+1,max m d.toNat,by congr 1;omega,by simp,by omega,g3,Nat.le_refl _,(⟨_,HM.out⟩:∃l,RM ts R _ (k+1) _ l)⟩
     ·obtain rfl:k=H:=by omega
      go_wp2;go_meet;exact⟨m,rfl,⟨l,JM.out⟩⟩
   case rest =>
    obtain⟨m,rfl,HC⟩:=hcut;obtain⟨l,V⟩:=HC.out;have HM:=hid V
    have d9:m<=8:=by have:=V.top.1;omega
    have b5:Hid (levF ts=some l):=by have:=V.lev;rwa [<-U.out,List.take_length]at this
    have M:=hid (xo.all (by rw[U.out];exact V.names))
    have b9:Hid (TokP ts↔∀i,1<=i->i<=m->(l[i]?).getD 0≠0):=by
     rw[<-qoy V.top];exact⟨fun h=>by obtain⟨l',h1,h2⟩:=h.2;rw[b5.out]at h1;cases h1;exact h2,fun h=>⟨M.out,l,b5.out,h⟩⟩
    have b1:=hid (qd HB.out.1 V.bel);clear HC V b5 M
    obtain⟨X,i5⟩:∃X,X=wc:=⟨_,rfl⟩
    subst wc
    go_upto_block 2 with fail
    go_cut [7] (fun s7 wd=>wd=X/\Hid (TokP ts))
    case first =>
     go_wp2_with fail
     go_loop [7] (fun v=>∃i:Nat,1<=i/\i<=m+1/\v=.int .i64 i/\Hid (∀j,1<=j->j<i->(l[j]?).getD 0≠0)) (fun v=>m+1 - (intOf v).toNat)
     case atStart=>exact⟨1,Nat.le_refl _,by omega,rfl,(fun j h1 h2=>by omega:∀j,1<=j->j<1->(l[j]?).getD 0≠0)⟩
     case round =>
      obtain⟨i,f8,h9,rfl,J⟩:=hrel
      by_cases a5:i<=m
      ·have D:=HM.out.cell (show i<9 by omega)
       have JN:Hid ((l[i]?).getD 0≠0->∀j,1<=j->j<i+1->(l[j]?).getD 0≠0):=fun h j h1 h2=>by
        rcases Nat.lt_or_ge j i with h3 | h3
        ·exact J.out j h1 h3
        ·rw[show j=i by omega];exact h
       have JY:Hid ((l[i]?).getD 0=0->¬TokP ts):=fun h ht=>b9.out.1 ht i f8 a5 h
       generalize (l[i]?).getD 0=x at D JN JY;clear J
       by_cases A:x=0
       ·have c6:(x == 0)=true:=by simpa using A
        have a:=hid (zj a3.out (fun h=>JY.out A h.1));clear JN JY A;go_wp2_with fail;go_ret;exact⟨by rw[a.out];rfl,b1.out⟩
       ·have c6:(x == 0)=false:=by simpa using A
        have f6:=hid (JN.out A);clear JN JY A;go_wp2_with fail
        go_round
        case rel=>exact⟨i+1,by omega,by omega,by simp,f6⟩
        case measure=>simp[intOf];omega
      ·have T:=hid (b9.out.2 (fun j h1 h2=>J.out j h1 (by omega)));clear J;go_wp2_with fail;go_meet;exact⟨rfl,T⟩
    case rest =>
     obtain⟨f2,T⟩:=hcut;subst wc;have b6:=hid (a3.out.trans ⟨fun h=>h.2,fun h=>⟨T.out,h⟩⟩)
     have HR:Hid (jm X ra F rc rs):=by have:=HB.out.2.rul.below HM.out.bel;simp only at this;rwa [S.out]at this
     have f4:Hid (∀W:World,Below X.heap.size X W->W.cell? ⟨gb,3,none⟩=some (.slice ra F rc)):=fun W hW=>qt hW (C3.out X HM.out.bel)
     have HS:Hid (∀r∈rs,r.l.size<=100/\r.p.size<=100/\r.r.length<=100/\∀x∈r.r,x.size<=100):=HB.out.2.small.rl;clear a3 T b9 HM C0 C1 C2 C3 HB d9;go_wp2_with fail
     go_loopg [8] F (fun kx s8 wr=>∃k:Nat,s8=.int .i64 k/\k<=F/\F - k<=kx/\Hid (Below X.heap.size X wr/\∀i x,i<k->rs[i]?=some x->j5 x))
     case atStart=>exact⟨0,rfl,Nat.zero_le _,by omega,(⟨Below.refl _ _,fun i x h=>absurd h (Nat.not_lt_zero _)⟩:Below X.heap.size X _/\∀i x,i<0->rs[i]?=some x->j5 x)⟩
     case round =>
      obtain⟨k,rfl,hk,hg,J⟩:=hrel;have c3:=f4.out wr J.out.1
      by_cases a5:k<F
      ·obtain⟨x,D⟩:∃x,rs[k]?=some x:=⟨rs[k]'(by rw[S.out];exact a5),List.getElem?_eq_getElem _⟩
       obtain⟨b,o,xa,xc,g6,p0,p1,p2,f⟩:=(HR.out.below J.out.1).at D;subst g6;have T:=hid D;have a8:=HS.out x (List.mem_of_getElem? D);obtain⟨nl,nr,E⟩:=x;simp only at p0 p1 p2 f a8
       obtain⟨n,HN⟩:∃n,Hid (nr.length=n):=⟨_,rfl⟩
       rw[HN.out]at p1 f a8;have i0:=f.le
       have i2:xc<=9223372036854775807:=by have:=f.max;unfold maxLen at this;omega
       have c9:=hid f;clear D f
       go_upto_region 24 with fail
       have d0:(wr.alloc (.cells #[.string nl,.slice xa n xc,.string E] 42)).cell? ⟨wr.heap.size,0,none⟩=some (.string nl):=by rw[World.cell?_alloc_mark];rfl
       have Z:(wr.alloc (.cells #[.string nl,.slice xa n xc,.string E] 42)).cell? ⟨wr.heap.size,1,none⟩=some (.slice xa n xc):=by rw[World.cell?_alloc_mark];rfl
       have d2:(wr.alloc (.cells #[.string nl,.slice xa n xc,.string E] 42)).cell? ⟨wr.heap.size,2,none⟩=some (.string E):=by rw[World.cell?_alloc_mark];rfl
       have Y:Hid (Row (wr.alloc (.cells #[.string nl,.slice xa n xc,.string E] 42)) 1 xa n xc (strC nr)/\Below X.heap.size X (wr.alloc (.cells #[.string nl,.slice xa n xc,.string E] 42))):=⟨c9.out.below (qb _ _),qd J.out.1 (qb _ _)⟩
       have HJ:=hid J.out.2;generalize wr.alloc (.cells #[.string nl,.slice xa n xc,.string E] 42)=wq at Y d0 Z d2 ⊢;generalize wr.heap.size=tb at d0 Z d2 ⊢;clear p0 p1 p2 J c9 c3;obtain⟨y,hy⟩:=zv (¬(kd nl/\n<=20/\xw E));have O:=hid hy;clear hy
       have H1:Hid (∀W:World,Calls Tryz.prog 39 #[.string nl] W fun e w'=>e=.returned (.bool (nameOk (by8 nl)))/\w'=W):=fun W=>yu nl W (by omega)
       have H2:Hid (∀W:World,Calls Tryz.prog 39 #[.string E] W fun e w'=>e=.returned (.bool (nameOk (by8 E)))/\w'=W):=fun W=>yu E W (by omega)
       go_cut [170] from 138 to 184 (fun s wd=>s=.bool y/\wd=wq)
       case first =>
        cases a6:nameOk (by8 nl)
        ·have a:=hid (xh O.out (fun h=>by have:=h.1;unfold kd at this;rw[a6]at this;cases this))
         rw[a6]at H1;go_wp2_with fail;refine(H1.out _).mono ?_;rintro e w1 ⟨rfl,rfl⟩;go_wp2_with fail;go_meet;exact⟨by rw[a.out],rfl⟩
        ·rw[a6]at H1
         by_cases c5:n<=20
         ·have d4:¬(20:Int)<(n:Int):=by omega
          have c:(xw E/\(E.toList == [])=true)\/(xw E/\(E.toList == [])=false/\nameOk (by8 E)=true)\/(¬xw E/\(E.toList == [])=false/\nameOk (by8 E)=false):=by
           unfold xw kd;rw[<-zy]
           cases (E.toList == []) <;> cases nameOk (by8 E) <;> simp
          rcases c with ⟨c,hs3⟩ | ⟨c,hs3,hs4⟩ | ⟨c,hs3,hs4⟩
          ·have a:=hid (zj O.out (fun h=>h ⟨a6,c5,c⟩));clear c;go_wp2_with fail;refine(H1.out _).mono ?_;rintro e w1 ⟨rfl,rfl⟩;go_wp2_with fail;go_meet;exact⟨by rw[a.out];simp;omega,rfl⟩
          ·have a:=hid (zj O.out (fun h=>h ⟨a6,c5,c⟩));rw[hs4]at H2;clear c;go_wp2_with fail;refine(H1.out _).mono ?_;rintro e w1 ⟨rfl,rfl⟩;go_wp2_with fail;refine(H2.out _).mono ?_;rintro e w2 ⟨rfl,rfl⟩;go_wp2_with fail;go_meet;exact⟨by rw[a.out];simp;omega,rfl⟩
          ·have a:=hid (xh O.out (fun h=>c h.2.2));rw[hs4]at H2;clear c;go_wp2_with fail;refine(H1.out _).mono ?_;rintro e w1 ⟨rfl,rfl⟩;go_wp2_with fail;refine(H2.out _).mono ?_;rintro e w2 ⟨rfl,rfl⟩;go_wp2_with fail;go_meet;exact⟨by rw[a.out],rfl⟩
         ·have d4:(20:Int)<(n:Int):=by omega
          have a:=hid (xh O.out (fun h=>c5 h.2.1));go_wp2_with fail;refine(H1.out _).mono ?_;rintro e w1 ⟨rfl,rfl⟩;go_wp2_with fail;go_meet;exact⟨by rw[a.out],rfl⟩
       case rest =>
        obtain⟨rfl,f2⟩:=hcut;subst wc;clear H1 H2 d0 d2
        cases y
        rotate_left
        ·have a:Hid (r=false):=zj b6.out (fun h=>O.out.1 rfl (by have:=h _ (List.mem_of_getElem? T.out);unfold j5 at this;simp only at this;rw[HN.out]at this;exact⟨this.1,this.2.1,this.2.2.1⟩))
         have L:=hid (qd b1.out Y.out.2);go_wp2_with fail;go_ret;exact⟨by rw[a.out];rfl,L.out⟩
        ·have HG:Hid (kd nl/\n<=20/\xw E):=by
          rcases Classical.em (kd nl/\n<=20/\xw E) with h | h
          ·exact h
          ·have:=O.out.2 h;cases this
         clear O;go_wp2_with fail
         go_loop [10] (fun v=>∃i:Nat,i<=n/\v=.int .i64 i/\Hid (∀j x,j<i->nr[j]?=some x->kd x)) (fun v=>n - (intOf v).toNat)
         case atStart=>exact⟨0,Nat.zero_le _,rfl,(fun j x h=>absurd h (Nat.not_lt_zero _):∀j x,j<0->nr[j]?=some x->kd x)⟩
         case round =>
          obtain⟨i,hi,rfl,J⟩:=hrel
          by_cases d7:i<n
          ·obtain⟨x,D⟩:∃x,nr[i]?=some x:=⟨nr[i]'(by rw[HN.out];exact d7),List.getElem?_eq_getElem _⟩
           obtain⟨b2,o2,h4,q0⟩:=jy Y.out.1 D;subst h4;have HX:=hid D
           have H3:Hid (∀W:World,Calls Tryz.prog 39 #[.string x] W fun e w'=>e=.returned (.bool (nameOk (by8 x)))/\w'=W):=fun W=>yu x W (by have:=a8.2.2.2 x (List.mem_of_getElem? D);omega)
           clear D
           cases a0:nameOk (by8 x)
           ·rw[a0]at H3;have a:Hid (r=false):=zj b6.out (fun h=>by have:=(h _ (List.mem_of_getElem? T.out)).2.2.2 x (List.mem_of_getElem? HX.out);unfold kd at this;rw[a0]at this;cases this)
            have L:=hid (qd b1.out Y.out.2);clear a0;go_wp2_with(go_at_call 39;refine(H3.out _).mono ?_;rintro e w2 ⟨rfl,rfl⟩)
            go_ret;exact⟨by rw[a.out];rfl,L.out⟩
           ·rw[a0]at H3
            have a:Hid (∀j x,j<i+1->nr[j]?=some x->kd x):=fun j v hj hv=>by
             rcases Nat.lt_or_ge j i with h | h
             ·exact J.out j v h hv
             ·have:j=i:=by omega
              subst this;rw[HX.out]at hv
              cases hv
              exact a0
            clear a0;go_wp2_with(go_at_call 39;refine(H3.out _).mono ?_;rintro e w2 ⟨rfl,rfl⟩)
            go_round
            case rel=>exact⟨i+1,by omega,by simp,a⟩
            case measure=>simp[intOf];omega
          ·have a:Hid (∀i x,i<k+1->rs[i]?=some x->j5 x):=fun j v hj hv=>by
            rcases Nat.lt_or_ge j k with h | h
            ·exact HJ.out j v h hv
            ·have:j=k:=by omega
             subst this;rw[T.out]at hv
             cases hv
             exact⟨HG.out.1,by simp only;rw[HN.out];exact HG.out.2.1,HG.out.2.2,fun x D=>by
              obtain⟨i',d6⟩:=List.getElem?_of_mem D;have Q:i'<nr.length:=(List.getElem?_eq_some_iff.1 d6).1
              exact J.out i' x (by rw[HN.out]at Q;omega) d6⟩
           go_wp2_with fail;go_roundg (F - (k+1))
           case measure=>omega
           case rel=>exact⟨k+1,by simp,by omega,Nat.le_refl _,(⟨Y.out.2,a.out⟩:Below X.heap.size X _/\∀i x,i<k+1->rs[i]?=some x->j5 x)⟩
      ·have a:Hid (r=true):=xh b6.out (fun x D=>by
        obtain⟨i,hi⟩:=List.getElem?_of_mem D;have Q:=(List.getElem?_eq_some_iff.1 hi).1
        exact J.out.2 i x (by rw[S.out]at Q;omega) hi)
       have L:=hid (qd b1.out J.out.1);go_wp2_with fail;go_ret;exact⟨by rw[a.out];rfl,L.out⟩
theorem qi8(w:World):Calls Tryz.prog 182 #[] w fun e b=>e=.returned (.bool true)/\Below w.heap.size w b:=by
 have H:=hid (qlq w);go_enter Tryz.func182,Tryz.ntmps182;go_wp2_with fail;refine H.out.mono ?_;rintro e w1 ⟨rfl,a⟩;go_wp2_with fail;go_ret;exact⟨rfl,a⟩
theorem nm1:kd bN/\kd bP/\kd bM/\kd bE:=by
 refine⟨?_,?_,?_,?_⟩ <;> (unfold kd;kernel_rfl)
theorem qkc:levF q9.ts=some [0,1,1,0,0,0,0,0,0]:=by
 unfold levF q9 jw;simp only[List.foldl];have a:LevP ⟨bN,0,0⟩:=.inl ⟨rfl,rfl⟩;have b:LevP ⟨bP,1,1⟩:=.inr ⟨by decide,by decide,by decide,by decide⟩;have c:LevP ⟨bM,2,1⟩:=.inr ⟨by decide,by decide,by decide,by decide⟩;simp[levS,a,b,c,at9]
theorem qb7:MayP q9:=by
 obtain⟨l,m,h,d⟩:=nm1;refine⟨by decide,by decide,by decide,by decide,.inl rfl,⟨?_,_,qkc,?_⟩,?_⟩
 ·intro i t b
  match i,b with
  | 0,b=>cases b;exact⟨l,fun j u g=>absurd g (Nat.not_lt_zero _)⟩
  | 1,b =>
   cases b
   refine⟨m,fun j u g f=>?_⟩
   obtain rfl:j=0:=by omega
   cases f
   intro e;have:=congrArg by8 e;exact absurd this (by decide)
  | 2,b =>
   cases b
   refine⟨h,fun j u g f=>?_⟩
   match j,g,f with
   | 0,_,f=>cases f;intro e;have:=congrArg by8 e;exact absurd this (by decide)
   | 1,_,f=>cases f;intro e;have:=congrArg by8 e;exact absurd this (by decide)
  | i+3,b=>cases b
 ·intro k p o a
  match k,o,a with
  | 0,_,_=>omega
  | 1,_,_=>omega
  | 2,_,_=>decide
  | 3,_,a=>exact absurd rfl a
  | 4,_,a=>exact absurd rfl a
  | 5,_,a=>exact absurd rfl a
  | 6,_,a=>exact absurd rfl a
  | 7,_,a=>exact absurd rfl a
  | 8,_,a=>exact absurd rfl a
 ·intro r n;simp only[q9,List.mem_cons,List.not_mem_nil,or_false]at n
  rcases n with rfl | rfl | rfl
  ·refine⟨d,by decide,.inl rfl,fun x c=>?_⟩;simp only[List.mem_cons,List.not_mem_nil,or_false]at c
   rcases c with rfl | rfl | rfl
   ·exact d
   ·exact m
   ·exact d
  ·refine⟨d,by decide,.inl rfl,fun x c=>?_⟩;simp only[List.mem_cons,List.not_mem_nil,or_false]at c
   rcases c with rfl | rfl | rfl
   ·exact d
   ·exact h
   ·exact d
  ·refine⟨d,by decide,.inl rfl,fun x c=>?_⟩;rw[List.mem_singleton]at c;subst c;exact l
def sumsT:ByteArray:=⟨(tx (yx q9 [0,1,1,0,0,0,0,0,0])).toArray⟩
theorem qo0:qr8 q9 sumsT:=⟨fun _ l a=>by rw[qkc]at a;cases a;rfl,fun h=>absurd qb7 h⟩
def badG:Gm:=⟨[],⟨#[49]⟩,0,[]⟩
theorem qsg:¬MayP badG:=fun h=>by
 rcases h.st with h1 | h1
 ·have:=congrArg by8 h1;exact absurd this (by decide)
 ·unfold kd at h1
  have a:nameOk (by8 badG.s)=false:=by kernel_rfl
  rw[a]at h1;cases h1
theorem qo1:Small badG:=⟨by decide,by decide,by decide,fun t h=>(by cases h),fun r h=>(by cases h)⟩
theorem qsh(w:World):IsG w ⟨none,0,none,0⟩ badG:=⟨⟨rfl,Nat.le_refl _,Nat.zero_le _,.inl ⟨rfl,rfl,rfl⟩⟩,⟨[],rfl,⟨rfl,Nat.le_refl _,Nat.zero_le _,.inl ⟨rfl,rfl,rfl⟩⟩,fun q h=>(by cases h)⟩,qo1⟩
def qgs:Gm:=⟨q9.ts,q9.s,q9.e,q9.rs.set 0 ⟨bE,[bE,bP,bE],bM⟩⟩
theorem qqm:q9≠qgs:=fun h=>by
 have a:(q9.rs.map fun r=>by8 r.p)=qgs.rs.map fun r=>by8 r.p:=by rw[h]
 exact absurd a (by decide)
theorem qly:Small qgs:=by
 obtain⟨b,g,c,d,a⟩:=qap;refine⟨b,by decide,c,d,fun r f=>?_⟩
 rcases List.mem_or_eq_of_mem_set f with h | h
 ·exact a r h
 ·subst h;have:=a ⟨bE,[bE,bP,bE],e0⟩ (by simp[q9]);exact⟨this.1,by decide,this.2.2.1,this.2.2.2⟩
theorem qkd(w:World)(hp:Pow w):Calls Tryz.prog 167 #[] w fun e y=>e=.returned (.bool true)/\Below w.heap.size w y:=by
 have HP:=hid hp
 have H1:Hid (∀W:World,Calls Tryz.prog 18 #[] W fun e y=>∃h qs,e=.returned (gv h q9)/\OwnG y W.heap.size h q9 qs/\Below W.heap.size W y):=fun W=>qdi W
 clear hp;go_enter Tryz.func167,Tryz.ntmps167;go_wp2_with fail;refine(H1.out _).mono ?_;rintro e w1 ⟨⟨m,n,f,k⟩,qs,rfl,ho,a0⟩;have J1:=hid2 (ho.isG qap) a0;clear ho a0;have eg:gv ⟨m,n,f,k⟩ q9=.agg #[.slice m 3 n,.string ⟨#[]⟩,.int .i64 0,.slice f 3 k]:=rfl;rw[eg];go_wp2_with fail;refine(H1.out _).mono ?_;rintro e w2 ⟨⟨o,s,sa,d⟩,ps,rfl,x,a1⟩;have ek:gv ⟨o,s,sa,d⟩ q9=.agg #[.slice o 3 s,.string ⟨#[]⟩,.int .i64 0,.slice sa 3 d]:=rfl;rw[ek];have M:Below (w1.alloc (.cells #[.slice m 3 n,.string ⟨#[]⟩,.int .i64 0,.slice f 3 k] 25)).heap.size (w1.alloc (.cells #[.slice m 3 n,.string ⟨#[]⟩,.int .i64 0,.slice f 3 k] 25)) w2:=a1
 obtain⟨b,rfl⟩:∃b,sa=some ⟨b,0,none⟩:=by
  obtain⟨a,c,e,-,-,h⟩:=zo x.rul
  cases e
  rcases h with h | h
  ·exact absurd h.2.1 (by decide)
  ·exact h
 have b1:∃q,ps[0]?=some q:=by
  have:=congrArg List.length x.map;rw[List.length_map]at this;exact⟨ps[0]'(by rw[this];decide),List.getElem?_eq_getElem _⟩
 obtain⟨q,hq⟩:=b1
 have K:q.1=⟨bE,[bE,bP,bE],e0⟩:=by
  have:=congrArg (fun l=>l[0]?) x.map;simp only[List.getElem?_map,hq]at this;exact Option.some.inj this
 have Q:=World.ownsRow.lt x.rul b rfl;have R:=x.below (qb w2 (.cells #[.slice o 3 s,.string ⟨#[]⟩,.int .i64 0,.slice (some ⟨b,0,none⟩) 3 d] 25))
 have b3:3<=d/\d<=9223372036854775807:=by
  have h1:=(Row.of_own x.rul).le;have h2:=(Row.of_own x.rul).max;unfold maxLen at h2;have h3:q9.rs.length=3:=rfl;simp only at h1 h2;omega
 have a7:=R.setRule (g:=b) rfl (i:=0) (j:=2) hq (by omega) ⟨bE,[bE,bP,bE],bM⟩ (.string bM) (by rw[K]) (by rw[K];rfl)
 have P:=qqk (j:=2) (u:=.string e0) R.rul (by
  unfold rulC;have h3:=vm (fun q:Ru × Option Addr × Nat=>([.string q.1.l,.slice q.2.1 q.1.r.length q.2.2,.string q.1.p]:List Value)) (fun _=>rfl) ps 0 q 2 hq (by omega);rw[Nat.zero_mul,Nat.zero_add]at h3
  rw[h3,K];rfl)
 have O:Below (w1.heap.size+1) (w1.alloc (.cells #[.slice m 3 n,.string ⟨#[]⟩,.int .i64 0,.slice f 3 k] 25)) ((w2.alloc (.cells #[.slice o 3 s,.string ⟨#[]⟩,.int .i64 0,.slice (some ⟨b,0,none⟩) 3 d] 25)).setCell ⟨b,2,none⟩ (.string bM)):=by
  have h1:=qd M (qb w2 (.cells #[.slice o 3 s,.string ⟨#[]⟩,.int .i64 0,.slice (some ⟨b,0,none⟩) 3 d] 25));rw[qz]at h1;refine h1.setCell (p:=⟨b,2,none⟩) ?_ _;have:=Q.1;rw[qz]at this;exact this
 go_upto_region 3 with fail
 have d3:(w2.alloc (.cells #[.slice o 3 s,.string ⟨#[]⟩,.int .i64 0,.slice (some ⟨b,0,none⟩) 3 d] 25)).cell? ⟨w2.heap.size,3,none⟩=some (.slice (some ⟨b,0,none⟩) 3 d):=by rw[World.cell?_alloc_mark];rfl
 have c2:=P.1;have f2:=P.2
 have Z:Hid (∀j v,(w2.alloc (.cells #[.slice o 3 s,.string ⟨#[]⟩,.int .i64 0,.slice (some ⟨b,0,none⟩) 3 d] 25)).cell? ⟨w2.heap.size,j,none⟩=some v->((w2.alloc (.cells #[.slice o 3 s,.string ⟨#[]⟩,.int .i64 0,.slice (some ⟨b,0,none⟩) 3 d] 25)).setCell ⟨b,2,none⟩ (.string bM)).cell? ⟨w2.heap.size,j,none⟩=some v):=fun j v h=>zg h (by have:=Q.2;simp only;omega)
 have S:=Z.out 0 (.slice o 3 s) (by rw[World.cell?_alloc_mark];rfl)
 have T:=Z.out 1 (.string ⟨#[]⟩) (by rw[World.cell?_alloc_mark];rfl)
 have U:=Z.out 2 (.int .i64 0) (by rw[World.cell?_alloc_mark];rfl)
 have V:=Z.out 3 _ d3
 have B:Hid (∀j v,(w1.alloc (.cells #[.slice m 3 n,.string ⟨#[]⟩,.int .i64 0,.slice f 3 k] 25)).cell? ⟨w1.heap.size,j,none⟩=some v->((w2.alloc (.cells #[.slice o 3 s,.string ⟨#[]⟩,.int .i64 0,.slice (some ⟨b,0,none⟩) 3 d] 25)).setCell ⟨b,2,none⟩ (.string bM)).cell? ⟨w1.heap.size,j,none⟩=some v):=fun j v h=>by
  rw[<-h]
  unfold World.cell?
  rw[O.block w1.heap.size (by omega)]
 have C:=B.out 0 (.slice m 3 n) (by rw[World.cell?_alloc_mark];rfl)
 have D:=B.out 1 (.string ⟨#[]⟩) (by rw[World.cell?_alloc_mark];rfl)
 have E:=B.out 2 (.int .i64 0) (by rw[World.cell?_alloc_mark];rfl)
 have F:=B.out 3 (.slice f 3 k) (by rw[World.cell?_alloc_mark];rfl)
 have J:=(qb w1 _).trans (O.mono (by omega))
 have G:Hid (IsG ((w2.alloc (.cells #[.slice o 3 s,.string ⟨#[]⟩,.int .i64 0,.slice (some ⟨b,0,none⟩) 3 d] 25)).setCell ⟨b,2,none⟩ (.string bM)) ⟨m,n,f,k⟩ q9/\IsG ((w2.alloc (.cells #[.slice o 3 s,.string ⟨#[]⟩,.int .i64 0,.slice (some ⟨b,0,none⟩) 3 d] 25)).setCell ⟨b,2,none⟩ (.string bM)) ⟨o,s,some ⟨b,0,none⟩,d⟩ qgs/\Below w.heap.size w ((w2.alloc (.cells #[.slice o 3 s,.string ⟨#[]⟩,.int .i64 0,.slice (some ⟨b,0,none⟩) 3 d] 25)).setCell ⟨b,2,none⟩ (.string bM))/\Pow ((w2.alloc (.cells #[.slice o 3 s,.string ⟨#[]⟩,.int .i64 0,.slice (some ⟨b,0,none⟩) 3 d] 25)).setCell ⟨b,2,none⟩ (.string bM))) :=
  ⟨J1.out.1.below J,a7.isG qly,qd J1.out.2 J,HP.out.below (qd J1.out.2 J)⟩
 clear a1 M x R a7 P O J Z B hq K Q J1 H1 HP ek eg
 go_upto_region 4 with fail
 clear d3 c2 f2;have b0:(.string bM:Value)=.string ⟨#[77]⟩:=rfl;rw[b0]at S T U V C D E F G;generalize (w2.alloc (.cells #[.slice o 3 s,.string ⟨#[]⟩,.int .i64 0,.slice (some ⟨b,0,none⟩) 3 d] 25)).setCell ⟨b,2,none⟩ (.string ⟨#[77]⟩)=z at S T U V C D E F G ⊢;generalize w1.heap.size=gb at C D E F ⊢;generalize w2.heap.size=hb at S T U V ⊢
 have a9:Hid (∀W:World,Below z.heap.size z W->W.cell? ⟨hb,0,none⟩=some (.slice o 3 s)/\W.cell? ⟨hb,1,none⟩=some (.string ⟨#[]⟩)/\W.cell? ⟨hb,2,none⟩=some (.int .i64 0)/\W.cell? ⟨hb,3,none⟩=some (.slice (some ⟨b,0,none⟩) 3 d)):=fun W t=>⟨qt t S,qt t T,qt t U,qt t V⟩
 have N:Hid (∀W:World,Below z.heap.size z W->W.cell? ⟨gb,0,none⟩=some (.slice m 3 n)/\W.cell? ⟨gb,1,none⟩=some (.string ⟨#[]⟩)/\W.cell? ⟨gb,2,none⟩=some (.int .i64 0)/\W.cell? ⟨gb,3,none⟩=some (.slice f 3 k)):=fun W t=>⟨qt t C,qt t D,qt t E,qt t F⟩
 have T1:Hid (Calls Tryz.prog 181 #[.agg #[.slice m 3 n,.string ⟨#[]⟩,.int .i64 0,.slice f 3 k]] z fun e y=>e=.returned (.string sumsT)/\Below z.heap.size z y):=qnq q9 ⟨m,n,f,k⟩ z sumsT rfl rfl G.out.1 qo0
 have M1:Hid (∀W:World,Below z.heap.size z W->Calls Tryz.prog 131 #[.agg #[.slice m 3 n,.string ⟨#[]⟩,.int .i64 0,.slice f 3 k]] W fun e y=>e=.returned (.bool true)/\Below W.heap.size W y):=fun W t=>qci q9 ⟨m,n,f,k⟩ W true (G.out.1.below t) ⟨fun _=>qb7,fun _=>rfl⟩
 have M2:Hid (∀W:World,Calls Tryz.prog 131 #[.agg #[.slice none 0 0,.string ⟨#[49]⟩,.int .i64 0,.slice none 0 0]] W fun e y=>e=.returned (.bool false)/\Below W.heap.size W y):=fun W=>qci badG ⟨none,0,none,0⟩ W false (qsh W) ⟨fun h=>(by cases h),fun h=>absurd h qsg⟩
 have E1:Hid (∀W:World,Below z.heap.size z W->Calls Tryz.prog 183 #[.agg #[.slice m 3 n,.string ⟨#[]⟩,.int .i64 0,.slice f 3 k],.agg #[.slice m 3 n,.string ⟨#[]⟩,.int .i64 0,.slice f 3 k]] W fun e y=>e=.returned (.bool true)/\Below W.heap.size W y):=fun W t=>qj6 q9 q9 ⟨m,n,f,k⟩ ⟨m,n,f,k⟩ W true (G.out.1.below t) (G.out.1.below t) ⟨fun _=>rfl,fun _=>rfl⟩
 have E2:Hid (∀W:World,Below z.heap.size z W->Calls Tryz.prog 183 #[.agg #[.slice m 3 n,.string ⟨#[]⟩,.int .i64 0,.slice f 3 k],.agg #[.slice o 3 s,.string ⟨#[]⟩,.int .i64 0,.slice (some ⟨b,0,none⟩) 3 d]] W fun e y=>e=.returned (.bool false)/\Below W.heap.size W y):=fun W t=>qj6 q9 qgs ⟨m,n,f,k⟩ ⟨o,s,some ⟨b,0,none⟩,d⟩ W false (G.out.1.below t) (G.out.2.1.below t) ⟨fun h=>(by cases h),fun h=>absurd h qqm⟩
 have b2:(sumsT.toList == [37,116,111,107,101,110,32,78,32,80,32,77,10,37,108,101,102,116,32,80,10,37,108,101,102,116,32,77,10,37,37,10,101,32,58,32,101,32,80,32,101,32,59,10,101,32,58,32,101,32,77,32,101,32,59,10,101,32,58,32,78,32,59,10])=true:=by rw[ja];kernel_rfl
 have HW:=hid G.out.2.2.1;generalize sumsT=sT at T1 b2;clear G S T U V;go_wp2_with fail;refine T1.out.mono ?_;rintro e w5 ⟨rfl,a2⟩;have X:=hid a2;clear a2 C D E F;go_wp2_with fail;refine(qi8 _).mono ?_;rintro e w6 ⟨rfl,a3⟩;have H:=hid (qd X.out a3);clear a3 X;obtain⟨C,D,E,F⟩:=N.out _ H.out;go_wp2_with fail;refine(M1.out _ H.out).mono ?_;rintro e w7 ⟨rfl,a4⟩;have Y:=hid (qd H.out a4);clear a4 H C D E F;go_wp2_with fail;refine(M2.out _).mono ?_;rintro e w8 ⟨rfl,a5⟩;have I:=hid (qd Y.out a5);clear a5 Y;obtain⟨C,D,E,F⟩:=N.out _ I.out;go_wp2_with fail;refine(E1.out _ I.out).mono ?_;rintro e w9 ⟨rfl,a6⟩;have A:=hid (qd I.out a6);clear a6 I C D E F;obtain⟨C,D,E,F⟩:=N.out _ A.out;obtain⟨S,T,U,V⟩:=a9.out _ A.out;go_wp2_with fail;refine(E2.out _ A.out).mono ?_;rintro e b4 ⟨rfl,L⟩;have a8:=hid (qd HW.out (qd A.out L));clear L A C D E F S T U V;go_wp2_with fail;go_ret;exact⟨rfl,a8.out⟩
theorem Tryz.info40:(Tryz.prog.info? 40).map (fun i=>(i.zero,i.size,i.bytes))=some (some (.agg #[.string ⟨#[]⟩,.int .i64 0,.int .i64 0]),3,32):=by kernel_rfl
theorem Tryz.info42:(Tryz.prog.info? 42).map (fun i=>(i.zero,i.size,i.bytes))=some (some (.agg #[.string ⟨#[]⟩,.slice none 0 0,.string ⟨#[]⟩]),3,56):=by kernel_rfl
theorem v8{w:World}{a E k n:Nat}{v:Value}{cs:List Value}(h:w.ownsRow a E k v n cs){b T:Nat}{d:Array Value}{j:Nat × Nat}(f:w.heap[b]?=some (.cells d T j))(l:E≠T):v.ownBlock≠some b:=by
 intro i
 rcases h.2 with ⟨rfl,-⟩ | ⟨g,c,cur',rfl,-,hh,-⟩
 ·cases i
 ·simp only[Value.ownBlock,Option.some.injEq]at i;subst i;rw[hh]at f;simp only[Option.some.injEq,Obj.cells.injEq]at f;exact l f.2.1
theorem qbe{w p:World}{b a E d k l n m:Nat}{v o:Value}{cs c:List Value}(h:w.ownsRow b E k v n cs)(f:w.ownsRow a d l o m c)(q:E≠d)(r:w.grownBy p v.ownBlock):p.ownsRow a d l o m c :=
 qh f (fun i j=>r.block i (World.ownsRow.lt f i j).2 (fun e=>qft h f q (g:=i) e.symm j))
def boxC (h:Hd) (G:Gm):Array Value:=#[.slice h.ta G.ts.length h.tc,.string G.s,.int .i64 G.e,.slice h.ra G.rs.length h.rc]
structure GB (w wr:World) (gb:Nat) (h:Hd) (G:Gm) (qs:List (Ru × Option Addr × Nat)):Prop where
 box:wr.heap[gb]?=some (.cells (boxC h G) 25 (0,0))
 own:OwnG wr w.heap.size h G qs
 bel:Below w.heap.size w wr
 new:w.heap.size<=gb
theorem GB.step{w wr a:World}{c:Nat}{h:Hd}{G:Gm}{qs:List (Ru × Option Addr × Nat)}(g:GB w wr c h G qs)(b:Below wr.heap.size wr a):GB w a c h G qs :=
 ⟨qf b g.box,g.own.below b,qd g.bel b,g.new⟩
theorem GB.cells{w wr:World}{a:Nat}{h:Hd}{G:Gm}{qs:List (Ru × Option Addr × Nat)}(g:GB w wr a h G qs):
  wr.cell? ⟨a,0,none⟩=some (.slice h.ta G.ts.length h.tc)/\wr.cell? ⟨a,1,none⟩=some (.string G.s)/\wr.cell? ⟨a,2,none⟩=some (.int .i64 G.e)/\wr.cell? ⟨a,3,none⟩=some (.slice h.ra G.rs.length h.rc)/\∀j,wr.frozen? ⟨a,j,none⟩=false :=
 ⟨by rw[qe g.box];rfl,by rw[qe g.box];rfl,by rw[qe g.box];rfl,by rw[qe g.box];rfl,qj g.box⟩
theorem OwnG.box{w:World}{a f j:Nat}{h:Hd}{G:Gm}{qs:List (Ru × Option Addr × Nat)}{c:Array Value}{T:Nat}{u:Value}(o:OwnG w a h G qs)(d:w.heap[f]?=some (.cells c T (0,0)))(k:T≠40)(l:T≠42)(m:T≠9):OwnG (w.setCell ⟨f,j,none⟩ u) a h G qs:=by
 refine⟨?_,?_,o.map,fun q g=>?_⟩
 ·exact qh o.tok (fun i b=>Below.heap_setCell _ _ _ _ (fun e=>by simp only at e;subst e;exact v8 o.tok d (Ne.symm k) b))
 ·exact qh o.rul (fun i b=>Below.heap_setCell _ _ _ _ (fun e=>by simp only at e;subst e;exact v8 o.rul d (Ne.symm l) b))
 ·exact qh (o.row q g) (fun i b=>Below.heap_setCell _ _ _ _ (fun e=>by simp only at e;subst e;exact v8 (o.row q g) d (Ne.symm m) b))
theorem qfc(a b:List Tk):tokC (a++b)=tokC a++tokC b:=by unfold tokC;rw[List.flatMap_append]
theorem qfd(a b:List (Ru × Option Addr × Nat)):rulC (a++b)=rulC a++rulC b:=by unfold rulC;rw[List.flatMap_append]
theorem GB.addTok{w W:World}{m:Nat}{h:Hd}{G:Gm}{qs:List (Ru × Option Addr × Nat)}(g:GB w W m h G qs)(J:G.ts.length<=1000)(t:Tk):
  ∃f n c o,(Builtin.append_ #[22,22] 22 #[.slice h.ta G.ts.length h.tc,.slice (some ⟨W.heap.size,0,none⟩) 1 1]).run Tryz.prog (W.alloc (.cells #[.string t.n,.int .i64 t.l,.int .i64 t.a] 40))=.ok (.slice f n c) o/\n=G.ts.length+1/\o.heap[m]?=some (.cells (boxC h G) 25 (0,0)) /\
   GB w (o.setCell ⟨m,0,none⟩ (.slice f n c)) m ⟨f,c,h.ra,h.rc⟩ ⟨G.ts++[t],G.s,G.e,G.rs⟩ qs:=by
 obtain⟨I,C,y,z,A⟩:=info_parts Tryz.info40;have d:=g.step (qb W (.cells #[.string t.n,.int .i64 t.l,.int .i64 t.a] 40))
 have r:∀j u,(tokC [t])[j]?=some u->(W.alloc (.cells #[.string t.n,.int .i64 t.l,.int .i64 t.a] 40)).cell? ((⟨W.heap.size,0,none⟩:Addr).add j)=some u:=by
  intro j u x;rw[Addr.add_lit,Nat.zero_add,World.cell?_alloc_mark,<-x];exact List.getElem?_toArray (xs:=tokC [t]) (i:=j)
 obtain⟨v',o,H,B,v,-⟩:=run_append_own (P:=Tryz.prog) (W.alloc (.cells #[.string t.n,.int .i64 t.l,.int .i64 t.a] 40)) w.heap.size 22 22 40 I _ 3 32 Tryz.underlying22 C y z A rfl (by decide) _ G.ts.length _ d.own.tok ⟨W.heap.size,0,none⟩ 1 1 (tokC [t]) rfl r
  (fun u x=>by simp[tokC]at x;rcases x with rfl | rfl | rfl <;> rfl) (by unfold maxLen;omega) (by omega) (by have:=d.bel.size;exact this)
 obtain⟨f,c,rfl,-⟩:=zo B
 have b:o.heap[m]?=some (.cells (boxC h G) 25 (0,0)):=by
  rw[v.block m (Array.getElem?_eq_some_iff.1 d.box).1 (fun e=>v8 d.own.tok d.box (by decide) e.symm)];exact d.box
 have E:OwnG o w.heap.size ⟨f,c,h.ra,h.rc⟩ ⟨G.ts++[t],G.s,G.e,G.rs⟩ qs:=by
  refine⟨?_,qbe d.own.tok d.own.rul (by decide) v,g.own.map,fun q F=>qbe d.own.tok (d.own.row q F) (by decide) v⟩;simp only;rw[qfc,List.length_append];exact B
 refine⟨f,_,c,o,H,rfl,b,?_,E.box b (by decide) (by decide) (by decide),?_,g.new⟩
 ·have:(boxC h G).setIfInBounds 0 (.slice f (G.ts.length+1) c)=boxC ⟨f,c,h.ra,h.rc⟩ ⟨G.ts++[t],G.s,G.e,G.rs⟩:=by
   unfold boxC;simp
  rw[setCell_eq_setRow o m 0 _ 25 (0,0) _ b,this];exact setRow_heap _ _ _ _ 25 _ b
 ·exact(d.bel.grown v (d.bel.size) (fun k D=>(World.ownsRow.lt d.own.tok k D).1)).setCell (p:=⟨m,0,none⟩) g.new _
theorem GB.addRule{w W:World}{t:Nat}{h:Hd}{G:Gm}{qs:List (Ru × Option Addr × Nat)}(g:GB w W t h G qs)(O:G.rs.length<=1000)(r:Ru)(d:Option Addr)(f m:Nat)(M:OwnS W w.heap.size (.slice d m f) r.r)(I:m=r.r.length):
  ∃o n c v,(Builtin.append_ #[23,23] 23 #[.slice h.ra G.rs.length h.rc,.slice (some ⟨W.heap.size,0,none⟩) 1 1]).run Tryz.prog (W.alloc (.cells #[.string r.l,.slice d m f,.string r.p] 42))=.ok (.slice o n c) v/\n=G.rs.length+1/\v.heap[t]?=some (.cells (boxC h G) 25 (0,0)) /\
   GB w (v.setCell ⟨t,3,none⟩ (.slice o n c)) t ⟨h.ta,h.tc,o,c⟩ ⟨G.ts,G.s,G.e,G.rs++[r]⟩ (qs++[(r,d,f)]):=by
 subst I;obtain⟨N,F,B,C,D⟩:=info_parts Tryz.info42;have a:=g.step (qb W (.cells #[.string r.l,.slice d r.r.length f,.string r.p] 42));have A:=M.below (qb W (.cells #[.string r.l,.slice d r.r.length f,.string r.p] 42))
 have x:∀j u,(rulC [(r,d,f)])[j]?=some u->(W.alloc (.cells #[.string r.l,.slice d r.r.length f,.string r.p] 42)).cell? ((⟨W.heap.size,0,none⟩:Addr).add j)=some u:=by
  intro j u z;rw[Addr.add_lit,Nat.zero_add,World.cell?_alloc_mark,<-z];exact List.getElem?_toArray (xs:=rulC [(r,d,f)]) (i:=j)
 obtain⟨v',v,L,E,y,-⟩:=run_append_own (P:=Tryz.prog) (W.alloc (.cells #[.string r.l,.slice d r.r.length f,.string r.p] 42)) w.heap.size 23 23 42 N _ 3 56 Tryz.underlying23 F B C D rfl (by decide) _ G.rs.length _ a.own.rul ⟨W.heap.size,0,none⟩ 1 1 (rulC [(r,d,f)]) rfl x
  (fun u z=>by simp[rulC]at z;rcases z with rfl | rfl | rfl <;> rfl) (by unfold maxLen;omega) (by omega) (by have:=a.bel.size;exact this)
 obtain⟨o,c,rfl,-⟩:=zo E
 have b:v.heap[t]?=some (.cells (boxC h G) 25 (0,0)):=by
  rw[y.block t (Array.getElem?_eq_some_iff.1 a.box).1 (fun e=>v8 a.own.rul a.box (by decide) e.symm)];exact a.box
 have J:OwnG v w.heap.size ⟨h.ta,h.tc,o,c⟩ ⟨G.ts,G.s,G.e,G.rs++[r]⟩ (qs++[(r,d,f)]):=by
  refine⟨qbe a.own.rul a.own.tok (by decide) y,?_,?_,fun q K=>?_⟩
  ·simp only;rw[qfd,List.length_append];exact E
  ·simp only;rw[List.map_append,g.own.map];rfl
  ·rcases List.mem_append.1 K with h4 | h4
   ·exact qbe a.own.rul (a.own.row q h4) (by decide) y
   ·rw[List.mem_singleton]at h4;subst h4;exact qbe a.own.rul A (by decide) y
 refine⟨o,_,c,v,L,rfl,b,?_,J.box b (by decide) (by decide) (by decide),?_,g.new⟩
 ·have:(boxC h G).setIfInBounds 3 (.slice o (G.rs.length+1) c)=boxC ⟨h.ta,h.tc,o,c⟩ ⟨G.ts,G.s,G.e,G.rs++[r]⟩:=by
   unfold boxC;simp
  rw[setCell_eq_setRow v t 3 _ 25 (0,0) _ b,this];exact setRow_heap _ _ _ _ 25 _ b
 ·exact(a.bel.grown y (a.bel.size) (fun k H=>(World.ownsRow.lt a.own.rul k H).1)).setCell (p:=⟨t,3,none⟩) g.new _
theorem qtv(w W:World)(s:ByteArray)(e:Int)(a:Below w.heap.size w W):GB w (W.alloc (.cells #[.slice none 0 0,.string s,.int .i64 e,.slice none 0 0] 25)) W.heap.size ⟨none,0,none,0⟩ ⟨[],s,e,[]⟩ [] :=
 ⟨heap_alloc_new _ _,⟨World.ownsRow_nil _ _ _ _,World.ownsRow_nil _ _ _ _,rfl,fun q h=>(by cases h)⟩,qd a (qb _ _),a.size⟩
theorem zc{w:World}{b a E k n:Nat}{v:Value}{cs:List Value}(h:w.ownsRow b E k v n cs)(c:a<=b):w.ownsRow a E k v n cs:=by
 refine⟨h.1,?_⟩
 rcases h.2 with hn | ⟨g,cap,cur,rfl,hg,r⟩
 ·exact .inl hn
 ·exact .inr ⟨g,cap,cur,rfl,by omega,r⟩
theorem u29:Tryz.prog.underlying 28=some (.slice 3):=by kernel_rfl
theorem u28:Tryz.prog.underlying 27=some (.slice 9):=by kernel_rfl
theorem u30:Tryz.prog.underlying 29=some (.slice 56):=by kernel_rfl
theorem u39:Tryz.prog.underlying 92=some (.slice 28):=by kernel_rfl
theorem u51:Tryz.prog.underlying 51=some (.slice 4):=by kernel_rfl
theorem i3:(Tryz.prog.info? 3).map (fun i=>(i.zero,i.size,i.bytes))=some (some (.int .i64 0),1,8):=by kernel_rfl
theorem i4:(Tryz.prog.info? 4).map (fun i=>(i.zero,i.size,i.bytes))=some (some (.bool false),1,1):=by kernel_rfl
theorem i29:(Tryz.prog.info? 28).map (fun i=>(i.zero,i.size,i.bytes))=some (some (.slice none 0 0),1,24):=by kernel_rfl
theorem i9:(Tryz.prog.info? 9).map (fun i=>(i.zero,i.size,i.bytes))=some (some (.string ⟨#[]⟩),1,16):=by kernel_rfl
theorem i62:(Tryz.prog.info? 56).map (fun i=>(i.zero,i.size,i.bytes))=some (some (.agg #[.int .i64 0,.slice none 0 0,.int .i64 0,.int .i64 0]),4,48):=by kernel_rfl
theorem xy{W:World}{B T E k n t:Nat}{s:Option Addr}{z:Value}{by_:Nat}{cs us:List Value}(J:Tryz.prog.underlying T=some (.slice E))(A:(Tryz.prog.info? E).map (fun i=>(i.zero,i.size,i.bytes))=some (some z,k,by_))(q:z.cells.size=k)(H:0<k)(y:by_<=100)(l:us.length=k)(b:∀u∈us,u.oneCell'=true)(h:W.ownsRow B E k (.slice s n t) n cs)(S:B<=W.heap.size)(U:n<100000):
  ∃g c v,(Builtin.append_ #[T,T] T #[.slice s n t,.slice (some ⟨W.heap.size,0,none⟩) 1 1]).run Tryz.prog (W.alloc (.cells us.toArray E))=.ok (.slice (some ⟨g,0,none⟩) (n+1) c) v/\v.ownsRow B E k (.slice (some ⟨g,0,none⟩) (n+1) c) (n+1) (cs++us) /\
   Kept (fun j=>(Value.slice s n t).ownBlock=some j) (W.alloc (.cells us.toArray E)) v/\((Value.slice s n t).ownBlock=some g\/W.heap.size<=g):=by
 obtain⟨K,G,m,o,p⟩:=info_parts A
 have a:∀j x,us[j]?=some x->(W.alloc (.cells us.toArray E)).cell? ((⟨W.heap.size,0,none⟩:Addr).add j)=some x:=by
  intro j x M;rw[Addr.add_lit,Nat.zero_add,World.cell?_alloc_mark,<-M];exact List.getElem?_toArray (xs:=us) (i:=j)
 have d:(n+1) * by_<=140737488355328:=Nat.le_trans (Nat.mul_le_mul (by omega:n+1<=100000) y) (by decide)
 obtain⟨v',N,I,F,O,-⟩:=run_append_own (P:=Tryz.prog) (W.alloc (.cells us.toArray E)) B T T E K _ k by_ J G m o p q H _ n _ (h.alloc _) ⟨W.heap.size,0,none⟩ 1 1 us (by rw[Nat.one_mul];exact l) a
  b (by unfold maxLen;omega) d (by rw[qz];omega)
 obtain⟨V,w1,f,-,C,D⟩:=qai (P:=Tryz.prog) (W.alloc (.cells us.toArray E)) T T E K _ k by_ J G m o p q H _ n _ (zc (h.alloc _) (Nat.zero_le _)) ⟨W.heap.size,0,none⟩ 1 1 us (by rw[Nat.one_mul];exact l) a
  b (by unfold maxLen;omega) d
 rw[I]at f
 injection f with e1 e2
 subst e1 e2;obtain⟨L,c,rfl,Q,R,r⟩:=zo F
 obtain⟨g,rfl⟩:∃g,L=some ⟨g,0,none⟩:=by
  rcases r with ⟨-,r,-⟩ | r
  ·omega
  ·exact r
 refine⟨g,c,N,I,F,C,?_⟩
 rcases D g rfl with h7 | h7
 ·exact .inl h7
 ·rw[qz]at h7;exact .inr (by omega)
theorem zq{W:World}{B E k n a:Nat}{f:Option Addr}{cs:List Value}(h:W.ownsRow B E k (.slice f n a) n cs):n<=a/\a<=9223372036854775807:=by
 obtain⟨g,b,e,c,d,-⟩:=zo h
 cases e
 unfold maxLen at d;exact⟨c,by omega⟩
def natC (l:List Nat):List Value:=l.map fun(x:Nat)=>Value.int .i64 (x:Int)
def intC (l:List Int):List Value:=l.map fun x=>.int .i64 x
def booC (l:List Bool):List Value:=l.map .bool
def srC (qs:List (SR × Option Addr × Nat)):List Value:=qs.flatMap fun q=>[.int .i64 q.1.l,.slice q.2.1 q.1.r.length q.2.2,.int .i64 q.1.lv,.int .i64 q.1.a]
theorem jk(l:List Nat)(x:Nat):natC (l++[x])=natC l++[.int .i64 (x:Int)]:=by unfold natC;rw[List.map_append];rfl
theorem j3(l:List Nat):(natC l).length=l.length:=by unfold natC;rw[List.length_map]
def qcm (w:World) (ao:Option Addr) (n cap:Nat) (rs:List SR):Prop :=
 ∃qs:List (SR × Option Addr × Nat),qs.map (·.1)=rs/\Row w 4 ao n cap (srC qs)/\∀q∈qs,Row w 1 q.2.1 q.1.r.length q.2.2 (natC q.1.r)
theorem qcm.below{w d:World}{b:Option Addr}{n a:Nat}{rs:List SR}(h:qcm w b n a rs)(c:Below w.heap.size w d):qcm d b n a rs:=by
 obtain⟨qs,f,g,i⟩:=h;exact⟨qs,f,g.below c,fun q j=>(i q j).below c⟩
theorem qcm.at{w:World}{k:Option Addr}{n f:Nat}{rs:List SR}(h:qcm w k n f rs){i:Nat}{r:SR}(s:rs[i]?=some r):
  ∃b o t u,k=some ⟨b,o,none⟩/\w.cell? ⟨b,o+i * 4,none⟩=some (.int .i64 r.l)/\w.cell? ⟨b,o+i * 4+1,none⟩=some (.slice t r.r.length u)/\w.cell? ⟨b,o+i * 4+2,none⟩=some (.int .i64 r.lv)/\w.cell? ⟨b,o+i * 4+3,none⟩=some (.int .i64 r.a)/\Row w 1 t r.r.length u (natC r.r):=by
 obtain⟨qs,rfl,m,v⟩:=h;rw[List.getElem?_map]at s;obtain⟨q,g,rfl⟩:=Option.map_eq_some_iff.1 s;have p:=m.len;unfold srC at p;rw[qct _ (fun _=>rfl)]at p;have z:=(List.getElem?_eq_some_iff.1 g).1;obtain⟨b,o,x,d⟩:=m.at (by omega)
 have c:=fun j y=>qav (fun q:SR × Option Addr × Nat=>[Value.int .i64 q.1.l,.slice q.2.1 q.1.r.length q.2.2,.int .i64 q.1.lv,.int .i64 q.1.a]) (fun _=>rfl) qs i q j g y
 refine⟨b,o,q.2.1,q.2.2,x,?_,?_,?_,?_,v q (List.mem_of_getElem? g)⟩
 ·exact d (i * 4+0) _ (by unfold srC;rw[c 0 (by omega)];rfl)
 ·exact d (i * 4+1) _ (by unfold srC;rw[c 1 (by omega)];rfl)
 ·exact d (i * 4+2) _ (by unfold srC;rw[c 2 (by omega)];rfl)
 ·exact d (i * 4+3) _ (by unfold srC;rw[c 3 (by omega)];rfl)
theorem yd{w:World}{c:Option Addr}{n a:Nat}{l:List Nat}(h:Row w 1 c n a (natC l)){i x:Nat}(d:l[i]?=some x):∃b o,c=some ⟨b,o,none⟩/\w.cell? ⟨b,o+i,none⟩=some (.int .i64 (x:Int)):=by
 have j:=h.len;rw[j3]at j;have k:=(List.getElem?_eq_some_iff.1 d).1;obtain⟨b,o,g,f⟩:=h.at (by omega);exact⟨b,o,g,f i _ (by unfold natC;rw[List.getElem?_map,d];rfl)⟩
theorem qc2{w:World}{c:Option Addr}{n a:Nat}{l:List Int}(h:Row w 1 c n a (intC l)){i:Nat}{x:Int}(f:l[i]?=some x):∃b o,c=some ⟨b,o,none⟩/\w.cell? ⟨b,o+i,none⟩=some (.int .i64 x):=by
 have d:=h.len;unfold intC at d;rw[List.length_map]at d;have k:=(List.getElem?_eq_some_iff.1 f).1;obtain⟨b,o,j,g⟩:=h.at (by omega);exact⟨b,o,j,g i _ (by unfold intC;rw[List.getElem?_map,f];rfl)⟩
structure SHd where
 na:Option Addr
 nc:Nat
 la:Option Addr
 lc:Nat
 aa:Option Addr
 ac:Nat
 ra:Option Addr
 rc:Nat
def sC (h:SHd) (S:Sp):Array Value:=#[.int .i64 (S.tk:Int),.int .i64 (S.nt:Int),.int .i64 (S.st:Int),.int .i64 S.ex,.slice h.na S.nm.length h.nc,.slice h.la S.lv.length h.lc,.slice h.aa S.az.length h.ac,.slice h.ra S.rs.length h.rc]
def sv (h:SHd) (S:Sp):Value:=.agg (sC h S)
structure IsSp (w:World) (h:SHd) (S:Sp):Prop where
 nm:Row w 1 h.na S.nm.length h.nc (strC S.nm)
 lv:Row w 1 h.la S.lv.length h.lc (intC S.lv)
 az:Row w 1 h.aa S.az.length h.ac (intC S.az)
 rl:qcm w h.ra S.rs.length h.rc S.rs
theorem IsSp.below{w b:World}{h:SHd}{S:Sp}(g:IsSp w h S)(a:Below w.heap.size w b):IsSp b h S:=⟨g.nm.below a,g.lv.below a,g.az.below a,g.rl.below a⟩
theorem zk{w:World}{k n a:Nat}{b:Option Addr}{cs:List Value}(h:Row w k b n a cs):n<=a/\a<=9223372036854775807:=by
 have d:=h.le;have c:=h.max;unfold maxLen at c;omega
theorem vn{w:World}{n a:Nat}{b:Option Addr}{rs:List SR}(h:qcm w b n a rs):n<=a/\a<=9223372036854775807:=by
 obtain⟨qs,-,c,-⟩:=h;exact zk c
theorem sbox{W:World}{b:Nat}{h:SHd}{S:Sp}(a:W.heap[b]?=some (.cells (sC h S) 31 (0,0))):
  W.cell? ⟨b,0,none⟩=some (.int .i64 (S.tk:Int))/\W.cell? ⟨b,1,none⟩=some (.int .i64 (S.nt:Int))/\W.cell? ⟨b,2,none⟩=some (.int .i64 (S.st:Int))/\W.cell? ⟨b,3,none⟩=some (.int .i64 S.ex)/\W.cell? ⟨b,4,none⟩=some (.slice h.na S.nm.length h.nc)/\W.cell? ⟨b,5,none⟩=some (.slice h.la S.lv.length h.lc)/\W.cell? ⟨b,6,none⟩=some (.slice h.aa S.az.length h.ac)/\W.cell? ⟨b,7,none⟩=some (.slice h.ra S.rs.length h.rc) :=
 ⟨by rw[qe a];rfl,by rw[qe a];rfl,by rw[qe a];rfl,by rw[qe a];rfl,by rw[qe a];rfl,by rw[qe a];rfl,by rw[qe a];rfl,by rw[qe a];rfl⟩
structure Mrk (W:World) (base mb fb:Nat) (va:Option Addr) (vc:Nat) (fd:List Bool) (fr:List Nat):Prop where
 box:W.heap[mb]?=some (.cells #[.slice (some ⟨fb,0,none⟩) fd.length fd.length,.slice va fr.length vc] 109 (0,0))
 fnd:W.ownsRow base 4 1 (.slice (some ⟨fb,0,none⟩) fd.length fd.length) fd.length (booC fd)
 frs:W.ownsRow base 3 1 (.slice va fr.length vc) fr.length (natC fr)
 new:base<=mb
def blk (va:Option Addr):Option Nat:=match va with | some a=>some a.block | none=>none
def MF (mb fb:Nat) (va:Option Addr) (k:Nat):Prop:=k=mb\/k=fb\/blk va=some k
def MMv (W:World) (mb fb:Nat) (va:Option Addr) (W':World) (va':Option Addr):Prop:=Kept (MF mb fb va) W W'/\∀k,blk va'=some k->blk va=some k\/W.heap.size<=k
theorem ze{b:Option Addr}{n c k:Nat}(h:(Value.slice b n c).ownBlock=some k):blk b=some k:=by
 cases b with
 | none=>cases h
 | some a=>exact h
theorem MMv.refl(W:World)(c b:Nat)(a:Option Addr):MMv W c b a W a:=⟨Kept.refl _ _,fun _ h=>.inl h⟩
theorem qb8(fd:List Bool)(x:Nat)(b:Bool):booC (fd.set x b)=(booC fd).set x (.bool b):=by unfold booC;rw[List.map_set]
theorem Mrk.add{W:World}{b f a n x:Nat}{l:Option Addr}{fd:List Bool}{d:List Nat}(h:Mrk W b f a l n fd d)(G:b<=W.heap.size)(H:d.length<10000):
  ∃g c j,(Builtin.append_ #[28,28] 28 #[.slice l d.length n,.slice (some ⟨W.heap.size,0,none⟩) 1 1]).run Tryz.prog ((W.setCell ⟨a,x,none⟩ (.bool true)).alloc (.cells #[.int .i64 (x:Int)] 3))=.ok (.slice (some ⟨g,0,none⟩) (d.length+1) c) j /\
   j.heap[f]?=some (.cells #[.slice (some ⟨a,0,none⟩) fd.length fd.length,.slice l d.length n] 109 (0,0)) /\
   Mrk (j.setCell ⟨f,1,none⟩ (.slice (some ⟨g,0,none⟩) (d.length+1) c)) b f a (some ⟨g,0,none⟩) c (fd.set x true) (d++[x])/\MMv W f a l (j.setCell ⟨f,1,none⟩ (.slice (some ⟨g,0,none⟩) (d.length+1) c)) (some ⟨g,0,none⟩):=by
 have r:Loc W f 109:=⟨_,h.box⟩
 have p:Loc W a 4:=za h.fnd rfl;have v:=qu r p (by decide);have s1:=(h.fnd.stored x (.bool true)).1
 have A:(W.setCell ⟨a,x,none⟩ (.bool true)).heap.size=W.heap.size:=by simp[World.setCell]
 have s2:(W.setCell ⟨a,x,none⟩ (.bool true)).ownsRow b 3 1 (.slice l d.length n) d.length (natC d):=qh h.frs (fun i m=>Below.heap_setCell _ _ _ _ (qu (za h.frs m) p (by decide)))
 have s3:(W.setCell ⟨a,x,none⟩ (.bool true)).heap[f]?=some (.cells #[.slice (some ⟨a,0,none⟩) fd.length fd.length,.slice l d.length n] 109 (0,0)):=by rw[Below.heap_setCell _ _ _ _ v];exact h.box
 have F:Kept (MF f a l) W (W.setCell ⟨a,x,none⟩ (.bool true)):=(Kept.refl _ _).setCell _ _ (fun _=>.inr (.inl rfl))
 generalize W.setCell ⟨a,x,none⟩ (.bool true)=V at *
 obtain⟨g,c,j,C,B,o,E⟩:=xy (us:=[.int .i64 (x:Int)]) u29 i3 rfl (by decide) (by decide) rfl (fun u D=>by rw[List.mem_singleton]at D;subst D;rfl) s2 (by omega) (by omega)
 rw[A]at C;have t:=(Array.getElem?_eq_some_iff.1 s3).1;have s:=(World.ownsRow.lt s1 a rfl).2
 have y:∀k,(Value.slice l d.length n).ownBlock=some k->Loc V k 3:=fun k o=>za s2 o
 have q:Loc V a 4:=za s1 rfl
 have t1:j.heap[f]?=some (.cells #[.slice (some ⟨a,0,none⟩) fd.length fd.length,.slice l d.length n] 109 (0,0)):=by
  rw[o.block f (by rw[qz];omega) (fun e=>qu ⟨_,s3⟩ (y _ e) (by decide) rfl),Below.heap_alloc _ _ _ t]
  exact s3
 have t2:j.ownsRow b 4 1 (.slice (some ⟨a,0,none⟩) fd.length fd.length) fd.length ((booC fd).set x (.bool true)) :=
  qh s1 (fun i m=>by
   cases m
   rw[o.block a (by rw[qz];omega) (fun e=>qu q (y _ e) (by decide) rfl),Below.heap_alloc _ _ _ s])
 have z:g≠f:=fun e=>qu (za B rfl) ⟨_,t1⟩ (by decide) e
 refine⟨g,c,j,C,t1,⟨?_,?_,?_,h.new⟩,?_,?_⟩
 ·rw[setCell_eq_setRow j f 1 _ 109 (0,0) _ t1,List.length_set,List.length_append];exact setRow_heap _ _ _ _ 109 _ t1
 ·rw[qb8,List.length_set]
  exact qh t2 (fun i m=>by
   cases m
   exact Below.heap_setCell _ _ _ _ (Ne.symm v))
 ·rw[jk,List.length_append]
  exact qh B (fun i m=>by
   cases m
   exact Below.heap_setCell _ _ _ _ z)
 ·refine Kept.setCell ?_ _ _ (fun _=>.inl rfl);refine(F.alloc _).trans o (fun i _ e=>.inr (.inr (ze e)))
 ·intro k e
  cases e
  rcases E with h1 | h1
  ·exact .inl (ze h1)
  ·exact .inr (by simp only;omega)
theorem qaq(W:World)(a d f q n x:Nat)(l:Option Addr)(fd:List Bool)(b:List Nat)(h:Mrk W a d f l q fd b)(p:MK n fd b)(J:x<n)(I:n<=1000)(z:a<=W.heap.size):
  Calls Tryz.prog 66 #[.pointer (some ⟨d,0,none⟩),.int .i64 x] W fun e j=>e=.returned (.tuple #[])/\∃o t,Mrk j a d f o t (mkd fd b x).1 (mkd fd b x).2/\MMv W d f l j o:=by
 have i:=p.len;have C:=p.le
 have y:W.cell? ⟨d,0,none⟩=some (.slice (some ⟨f,0,none⟩) fd.length fd.length):=by rw[qe h.box];rfl
 have c0:W.cell? ⟨f,x,none⟩=some (.bool (isF fd x)):=by
  rw[h.fnd.cellAt x (by omega)];unfold booC;rw[List.getElem?_map,vy (by omega)];rfl
 have A:=zq h.frs;rw[i]at y
 have D:(x:Int)<(n:Int):=by omega
 cases k:isF fd x
 ·obtain⟨g,c,j,B,t1,v,u⟩:=h.add (x:=x) z (by omega)
  have r:Hid (Mrk (j.setCell ⟨d,1,none⟩ (.slice (some ⟨g,0,none⟩) (b.length+1) c)) a d f (some ⟨g,0,none⟩) c (mkd fd b x).1 (mkd fd b x).2/\MMv W d f l (j.setCell ⟨d,1,none⟩ (.slice (some ⟨g,0,none⟩) (b.length+1) c)) (some ⟨g,0,none⟩)):=by
   unfold mkd;rw[k];exact⟨v,u⟩
  have G:=h.fnd.frozenAt x;have s:d≠f:=qu ⟨_,h.box⟩ (za h.fnd rfl) (by decide)
  have E:(W.setCell ⟨f,x,none⟩ (.bool true)).cell? ⟨d,1,none⟩=some (.slice l b.length q):=by
   refine zg ?_ s;rw[qe h.box];rfl
  have F:j.cell? ⟨d,1,none⟩=some (.slice l b.length q):=by rw[qe t1];rfl
  have H:=qj t1 1;rw[k]at c0
  generalize b.length=m at *
  clear h p v u t1 k i;go_enter Tryz.func66,Tryz.ntmps66;go_wp2_with(at_builtin;refine Lib.wpList_append_run _ rfl _ _ _ _ rfl _ _ rfl rfl _ _ B ?_)
  go_end0;exact⟨rfl,_,_,r.out⟩
 ·have r:Hid (Mrk W a d f l q (mkd fd b x).1 (mkd fd b x).2):=by
   unfold mkd;rw[k];exact h
  rw[k]at c0;clear h p k i;go_enter Tryz.func66,Tryz.ntmps66;go_wp2_with fail;go_end0;exact⟨rfl,_,_,r.out,MMv.refl _ _ _ _⟩
end Go.Proofs.YtbdogaaooeoccaaGreatDoor
