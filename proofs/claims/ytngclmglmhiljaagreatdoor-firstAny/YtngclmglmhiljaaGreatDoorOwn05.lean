/- Texts that the proofs of the First statements stand on, part Own05. -/
import Derived.Laws.OwnMore
import Derived.Test.YtngclmglmhiljaaGreatDoorOwn04
set_option maxHeartbeats 16000000
set_option maxRecDepth 100000
namespace Go.Proofs.YtngclmglmhiljaaGreatDoor
open Go.RowKit
def vi (r:Ru):List ByteArray:=[r.l,⟨#[58]⟩]++r.r++(if r.p=⟨#[]⟩ then [] else [⟨#[37,112,114,101,99]⟩,r.p])++[⟨#[59]⟩]
def Put (w:World) (b:Nat) (v:Value) (L M:List (List (List UInt8))) (w':World) (e:Ending):Prop:=∃ v',e=.returned (.tuple #[])/\Bld w' b v' (tx (L++M))/\OkL (L++M)/\za w b v w' v'
theorem qiw (r:Ru) (xa:Option Addr) (xc b:Nat) (v:Value) (L:List (List (List UInt8))) (w:World) (hr:Row w 1 xa r.r.length xc (strC r.r)) (hs:r.l.size<=100/\r.p.size<=100/\r.r.length<=100/\∀ x∈r.r,x.size<=100) (hB:Bld w b v (tx L)) (hL:OkL L) (hl:L.length<=400) :
  Calls Tryz.prog 148 #[.pointer (some ⟨b,0,none⟩),.agg #[.string r.l,.slice xa r.r.length xc,.string r.p]] w fun e w'=>Put w b v L [(vi r).map by8] w' e:=by
 obtain ⟨nl,nr,np⟩:=r
 simp only at hr hs ⊢
 have hlen:=hs.2.2.1
 have HS:Hid (nl.size<=100/\np.size<=100/\∀ x∈nr,x.size<=100):=⟨hs.1,hs.2.1,hs.2.2.2⟩
 have HB:Hid (Bld w b v (tx L)/\OkL L/\L.length<=400):=⟨hB,hL,hl⟩
 obtain ⟨n,hn⟩:∃ n,nr.length=n:=⟨_,rfl⟩
 have HN:Hid (nr.length=n):=hn
 rw [hn] at hr hlen ⊢
 have hle:=hr.le
 have hmx:xc<=9223372036854775807:=by have:=hr.max;unfold maxLen at this;omega
 have HR:Hid (Row w 1 xa n xc (strC nr)):=hr
 clear hs hB hL hl hn hr
 go_enter Tryz.func148,Tryz.ntmps148
 go_upto_region 1 with fail
 have d0:(w.alloc (.cells #[.string nl,.slice xa n xc,.string np] 55)).cell? ⟨w.heap.size,0,none⟩=some (.string nl):=by rw [World.cell?_alloc_mark];rfl
 have d1:(w.alloc (.cells #[.string nl,.slice xa n xc,.string np] 55)).cell? ⟨w.heap.size,1,none⟩=some (.slice xa n xc):=by rw [World.cell?_alloc_mark];rfl
 have d2:(w.alloc (.cells #[.string nl,.slice xa n xc,.string np] 55)).cell? ⟨w.heap.size,2,none⟩=some (.string np):=by rw [World.cell?_alloc_mark];rfl
 have HW:Hid (Below w.heap.size w (w.alloc (.cells #[.string nl,.slice xa n xc,.string np] 55))):=qb _ _
 generalize w.alloc (.cells #[.string nl,.slice xa n xc,.string np] 55)=w1 at d0 d1 d2 HW ⊢
 obtain ⟨tb,htb⟩:∃ tb,tb=w.heap.size:=⟨_,rfl⟩
 rw [<-htb] at d0 d1 d2 ⊢
 clear htb
 have hA:=(qhh w1 [nl,⟨#[58]⟩] (by simp)).addRow (HR.out.below (qd HW.out (qb w1 (.cells (strC [nl,⟨#[58]⟩]).toArray 9)))) (by simp) (by rw [HN.out];simp;omega) HN.out.symm
 obtain ⟨a2,n2,k2,w2,hr2,hn2,ho2,hb2⟩:=hA
 have hr2':(Builtin.append_ #[28,28] 28 #[.slice (some ⟨w1.heap.size,0,none⟩) 2 2,.slice xa n xc]).run Tryz.prog (w1.alloc (.cells #[.string nl,.string ⟨#[58]⟩] 9))=.ok (.slice a2 n2 k2) w2:=hr2
 have hbw:Below w1.heap.size w1 w2:=(qb w1 _).trans hb2
 have H2:Hid (OwnS w2 w1.heap.size (.slice a2 n2 k2) ([nl,⟨#[58]⟩]++nr)/\n2=([nl,⟨#[58]⟩]++nr).length/\Below w1.heap.size w1 w2):=⟨ho2,hn2,hbw⟩
 have d1':=qo d1
 have e2:=qj hbw d2
 clear hr2 hn2 ho2 hb2 hbw
 go_upto_region 2 with (at_builtin;refine Lib.wpList_append_run _ rfl _ _ _ _ rfl _ _ rfl rfl _ _ hr2' ?_)
 clear hr2' d0 d1 d2 d1'
 obtain ⟨pe,hpe⟩:∃ pe:Bool,(np.toList == [])=pe:=⟨_,rfl⟩
 go_upto_if 13 with fail
 have HPE:Hid (pe=true↔np=⟨#[]⟩):=by show _↔_;rw [<-hpe];exact zo np
 clear hpe
 go_cut [4] (fun s4 wd=>∃ ml:Option Addr × Nat × Nat,s4=.slice ml.1 ml.2.1 ml.2.2/\Hid (∃ l:List ByteArray,l=[nl,⟨#[58]⟩]++nr++(if np=⟨#[]⟩ then [] else [⟨#[37,112,114,101,99]⟩,np])/\ml.2.1=l.length/\OwnS wd w1.heap.size (.slice ml.1 ml.2.1 ml.2.2) l/\Below w1.heap.size w1 wd))
 case first =>
  by_cases hp:np=⟨#[]⟩
  ·have h1:pe=true:=HPE.out.2 hp
   subst h1
   have HF:Hid (∃ l:List ByteArray,l=[nl,⟨#[58]⟩]++nr++(if np=⟨#[]⟩ then [] else [⟨#[37,112,114,101,99]⟩,np])/\n2=l.length/\OwnS w2 w1.heap.size (.slice a2 n2 k2) l/\Below w1.heap.size w1 w2):=⟨_,rfl,by rw [if_pos hp,List.append_nil];exact H2.out.2.1,by rw [if_pos hp,List.append_nil];exact H2.out.1,H2.out.2.2⟩
   clear hp
   go_wp2_with fail
   go_meet
   exact ⟨(a2,n2,k2),rfl,HF⟩
  ·have h1:pe=false:=zb HPE.out hp
   subst h1
   have hA:=(H2.out.1.below (qb w2 (.cells (strC [⟨#[37,112,114,101,99]⟩,np]).toArray 9))).addRow (vx w2 [⟨#[37,112,114,101,99]⟩,np] (by simp)) (by have:=H2.out.2.2.size;simp;omega) (by rw [List.length_append,HN.out];simp;omega) rfl
   obtain ⟨a3,n3,k3,w3,hr3,hn3,ho3,hb3⟩:=hA
   have hr3':(Builtin.append_ #[28,28] 28 #[.slice a2 n2 k2,.slice (some ⟨w2.heap.size,0,none⟩) 2 2]).run Tryz.prog (w2.alloc (.cells #[.string ⟨#[37,112,114,101,99]⟩,.string np] 9))=.ok (.slice a3 n3 k3) w3:=hr3
   have HF:Hid (∃ l:List ByteArray,l=[nl,⟨#[58]⟩]++nr++(if np=⟨#[]⟩ then [] else [⟨#[37,112,114,101,99]⟩,np])/\n3=l.length/\OwnS w3 w1.heap.size (.slice a3 n3 k3) l/\Below w1.heap.size w1 w3):=⟨_,rfl,by rw [if_neg hp];exact hn3,by rw [if_neg hp];exact ho3,(qd H2.out.2.2 (qb w2 _)).trans hb3⟩
   clear hp hr3 hn3 ho3 hb3
   go_wp2_with (at_builtin;refine Lib.wpList_append_run _ rfl _ _ _ _ rfl _ _ rfl rfl _ _ hr3' ?_)
   go_meet
   exact ⟨(a3,n3,k3),rfl,HF⟩
 case rest =>
  obtain ⟨⟨a4,n4,k4⟩,rfl,HF⟩:=hcut
  simp only at HF
  obtain ⟨l,hl,hn4,ho4,hb4⟩:=HF.out
  have hll:l.length<=104:=by
   rw [hl,List.length_append,List.length_append,HN.out]
   simp only [List.length_cons,List.length_nil]
   split <;> simp <;> omega
  have hls:∀ x∈l++[⟨#[59]⟩],x.size<=100:=by
   intro x hx
   rw [hl] at hx
   simp only [List.mem_append,List.mem_cons,List.not_mem_nil,or_false] at hx
   have h58:(⟨#[58]⟩:ByteArray).size<=100:=by decide
   have h59:(⟨#[59]⟩:ByteArray).size<=100:=by decide
   have hpr:(⟨#[37,112,114,101,99]⟩:ByteArray).size<=100:=by decide
   rcases hx with ((( rfl | rfl) | hx) | hx) | rfl
   ·exact HS.out.1
   ·exact h58
   ·exact HS.out.2.2 x hx
   ·split at hx
    ·cases hx
    ·simp only [List.mem_cons,List.not_mem_nil,or_false] at hx
     rcases hx with rfl | rfl
     ·exact hpr
     ·exact HS.out.2.1
   ·exact h59
  have hA:=(ho4.below (qb wc (.cells (strC [⟨#[59]⟩]).toArray 9))).addRow (vx wc [⟨#[59]⟩] (by simp)) (by have:=hb4.size;simp;omega) (by simp;omega) rfl
  obtain ⟨a5,n5,k5,w5,hr5,hn5,ho5,hb5⟩:=hA
  have hr5':(Builtin.append_ #[28,28] 28 #[.slice a4 n4 k4,.slice (some ⟨wc.heap.size,0,none⟩) 1 1]).run Tryz.prog (wc.alloc (.cells #[.string ⟨#[59]⟩] 9))=.ok (.slice a5 n5 k5) w5:=hr5
  have hb6:Below w.heap.size w w5:=by
   have h1:Below w1.heap.size w1 w5:=(qd hb4 (qb wc _)).trans hb5
   exact qd HW.out h1
  have HC:Hid (Calls Tryz.prog 146 #[.pointer (some ⟨b,0,none⟩),.slice a5 n5 k5] w5 fun e w'=>∃ v',e=.returned (.tuple #[])/\Bld w' b v' (tx (L++[(vi ⟨nl,nr,np⟩).map by8]))/\OkL (L++[(vi ⟨nl,nr,np⟩).map by8])/\za w5 b v w' v'):=by
   have e:vi ⟨nl,nr,np⟩=l++[⟨#[59]⟩]:=by rw [hl];rfl
   rw [e]
   exact qch (l++[⟨#[59]⟩]) a5 n5 k5 b v L w5 (ho5.row hn5) hn5 (by rw [hn5,List.length_append];simp) (by rw [hn5,List.length_append];simp;omega) hls (HB.out.1.below hb6) HB.out.2.1 HB.out.2.2
  have HM:Hid (za w b v w5 v):=za.of_below hb6
  clear hr5 hn5 ho5 hb5 hb6 hls hll hl hn4 ho4 hb4 HF
  go_wp2_with (first | (at_builtin;refine Lib.wpList_append_run _ rfl _ _ _ _ rfl _ _ rfl rfl _ _ hr5' ?_))
  refine HC.out.mono ?_
  rintro e w6 ⟨v6,rfl,h1,h2,h3⟩
  have HE:Hid (Bld w6 b v6 (tx (L++[(vi ⟨nl,nr,np⟩).map by8]))/\OkL (L++[(vi ⟨nl,nr,np⟩).map by8])/\za w b v w6 v6):=⟨h1,h2,HM.out.trans h3⟩
  clear h1 h2 h3 HC
  go_wp2_with fail
  go_end0
  exact ⟨v6,rfl,HE.out⟩
theorem rowF {w w':World} {b:Nat} {v v':Value} {k:Nat} {ao:Option Addr} {n cap:Nat} {cs:List Value} (h:Row w k ao n cap cs) (hm:za w b v w' v') (hf:∀ a,ao=some a->¬ Foot b v a.block):Row w' k ao n cap cs:=by
 refine ⟨h.len,h.le,h.max,h.lies.imp id ?_⟩
 rintro ⟨g,o,rfl,hc⟩
 refine ⟨g,o,rfl,fun j u hu=>?_⟩
 have h1:=hc j u hu
 have hl:=World.block_lt_of_cell? w _ h1
 rw [<-h1]
 unfold World.cell?
 rw [hm.1.block _ hl (hf ⟨g,o,none⟩ rfl)]
def qgg (ts:List Tk) (l:List Int) (k:Nat):List (List (List UInt8)):=if (l[k]?).getD 0=0 then [] else [(keyA ((l[k]?).getD 0) :: zy ts k).map by8]
def zu (ts:List Tk) (l:List Int) (k:Nat):List (List (List UInt8)):=(List.range k).flatMap fun i=>qgg ts l (i+1)
def zq (ts:List Tk):List (List (List UInt8)):=if ts=[] then [] else [((⟨#[37,116,111,107,101,110]⟩:ByteArray) :: ts.map (·.n)).map by8]
theorem qgh (ts:List Tk) (l:List Int) (k:Nat):zu ts l (k+1)=zu ts l k++qgg ts l (k+1):=by
 unfold zu
 rw [List.range_succ,List.flatMap_append]
 simp
theorem qec (ts:List Tk) (l:List Int) (k:Nat):(zu ts l k).length<=k:=by
 induction k with
 | zero=>simp [zu]
 | succ k ih =>
  rw [qgh,List.length_append]
  unfold qgg
  split <;> simp <;> omega
def LvB (ts:List Tk) (l:List Int) (L:List (List (List UInt8))) (w:World) (b:Nat) (v:Value) (wr:World) (lb k:Nat):Prop :=
 ∃ v',Bld wr b v' (tx (L++zq ts++zu ts l (k - 1)))/\OkL (L++zq ts++zu ts l (k - 1))/\za w b v wr v'/\wr.heap[lb]?=some (.cells (ar9 l) 129 (0,0))/\¬ Foot b v' lb
theorem qgi (ts:List Tk) (l:List Int) (ao:Option Addr) (n cap b:Nat) (v:Value) (L:List (List (List UInt8))) (w:World) (hr:Row w 3 ao n cap (tokC ts)) (hn:n=ts.length) (hnn:n<=100) (hs:∀ t∈ts,t.n.size<=100) (hlf:levF ts=some l) (hng:qaf l) (hfr:0<n->∀ a,ao=some a->¬ Foot b v a.block) (hB:Bld w b v (tx L)) (hL:OkL L) (hl:L.length<=300) :
  Calls Tryz.prog 145 #[.pointer (some ⟨b,0,none⟩),.slice ao n cap] w fun e w'=>Put w b v L (zq ts++zu ts l 8) w' e:=by
 have HN:Hid (n=ts.length):=hn
 have HR:Hid (Row w 3 ao n cap (tokC ts)):=hr
 have HS:Hid (∀ t∈ts,t.n.size<=100):=hs
 have HB:Hid (Bld w b v (tx L)/\OkL L/\L.length<=300):=⟨hB,hL,hl⟩
 have HLF:Hid (levF ts=some l/\qaf l):=⟨hlf,hng⟩
 have HFR0:Hid (0<n->∀ a,ao=some a->¬ Foot b v a.block):=hfr
 have hle:=hr.le
 have hmx:cap<=9223372036854775807:=by have:=hr.max;unfold maxLen at this;omega
 clear hr hn hs hB hL hl hlf hng hfr
 by_cases h0:n=0
 ·have e0:((n:Int) == 0)=true:=by simpa using h0
  have HF:Hid (zq ts++zu ts l 8=[]):=by
   have e:ts=[]:=List.eq_nil_of_length_eq_zero (by rw [<-HN.out];exact h0)
   subst e
   have e2:l=jl:=by have:=HLF.out.1;cases this;rfl
   subst e2
   rfl
  have HE:Hid (Bld w b v (tx L)/\OkL L):=⟨HB.out.1,HB.out.2.1⟩
  clear HB HLF h0
  go_enter Tryz.func145,Tryz.ntmps145
  go_wp2_with fail
  refine bodyPost_ret (results_none rfl _ _ _) rfl ?_
  exact ⟨v,rfl,by rw [HF.out,List.append_nil];exact HE.out.1,by rw [HF.out,List.append_nil];exact HE.out.2,za.refl _ _ _⟩
 ·have e0:((n:Int) == 0)=false:=by simpa using h0
  have HFR:Hid (∀ a,ao=some a->¬ Foot b v a.block):=HFR0.out (by omega)
  clear HFR0
  have HTL:Hid (zq ts=[((⟨#[37,116,111,107,101,110]⟩:ByteArray) :: ts.map (·.n)).map by8]):=by
   show _=_
   unfold zq
   rw [if_neg (fun e=>h0 (by rw [HN.out,e];rfl))]
  have HO:Hid (OwnS (w.alloc (.cells #[.string ⟨#[37,116,111,107,101,110]⟩] 9)) w.heap.size (.slice (some ⟨w.heap.size,0,none⟩) 1 1) [⟨#[37,116,111,107,101,110]⟩]/\Below w.heap.size w (w.alloc (.cells #[.string ⟨#[37,116,111,107,101,110]⟩] 9))):=⟨qhh w [⟨#[37,116,111,107,101,110]⟩] (by simp),qb _ _⟩
  obtain ⟨ka,hka⟩:∃ ka:ByteArray,ka=⟨#[37,116,111,107,101,110]⟩:=⟨_,rfl⟩
  have HKS:Hid (ka.size<=100):=by show _<=_;rw [hka];decide
  rw [<-hka] at HTL
  go_enter Tryz.func145,Tryz.ntmps145
  go_upto_region 2 with fail
  rw [<-hka] at HO ⊢
  clear hka
  generalize hw1:w.alloc (.cells #[.string ka] 9)=w1 at HO ⊢
  clear hw1
  go_upto_block 0 with fail
  go_cut [4] (fun s4 wd=>∃ ml:Option Addr × Nat × Nat,s4=.slice ml.1 ml.2.1 ml.2.2/\Hid (ml.2.1=(ka :: ts.map (·.n)).length/\Row wd 1 ml.1 ml.2.1 ml.2.2 (strC (ka :: ts.map (·.n)))/\Below w.heap.size w wd))
  case first =>
   go_wp2_with fail
   go_loopg [4,16] n (fun kx s4 s16 wr=>∃ (i:Nat) (ml:Option Addr × Nat × Nat),s4=.slice ml.1 ml.2.1 ml.2.2/\s16=.int .i64 i/\i<=n/\n - i<=kx/\Hid (∃ q:List ByteArray,q=ka :: (ts.take i).map (·.n)/\ml.2.1=q.length/\OwnS wr w.heap.size (.slice ml.1 ml.2.1 ml.2.2) q/\Below w.heap.size w wr))
   case atStart=>exact ⟨0,(some ⟨w.heap.size,0,none⟩,1,1),rfl,rfl,Nat.zero_le _,by omega,(⟨[ka],rfl,rfl,HO.out.1,HO.out.2⟩:∃ q:List ByteArray,q=ka :: (ts.take 0).map (·.n)/\1=q.length/\OwnS w1 w.heap.size (.slice (some ⟨w.heap.size,0,none⟩) 1 1) q/\Below w.heap.size w w1)⟩
   case round =>
    obtain ⟨i,⟨la,ln,lc⟩,rfl,rfl,hi,hg,J⟩:=hrel
    simp only at J
    obtain ⟨q,hq,hln,hown,hbel⟩:=J.out
    have hll:q.length<=101:=by
     rw [hq,List.length_cons,List.length_map,List.length_take,<-HN.out]
     omega
    clear J HO
    by_cases hlt:i<n
    ·obtain ⟨t,ht⟩:∃ t,ts[i]?=some t:=⟨ts[i]'(by rw [<-HN.out];exact hlt),List.getElem?_eq_getElem _⟩
     obtain ⟨tb0,o,rfl,c0,c1,c2⟩:=ja (HR.out.below hbel) ht
     have HT:Hid (ka :: (ts.take (i+1)).map (·.n)=q++[t.n]):=by show _=_;rw [zn ht,List.map_append,hq];rfl
     have HLN:Hid (ln=q.length):=hln
     obtain ⟨tn,tl,ta⟩:=t
     simp only at c0 c1 c2 HT
     clear ht
     clear hq hln
     go_upto_region 5 with fail
     have HQ:Hid (OwnS (wr.alloc (.cells #[.string tn,.int .i64 tl,.int .i64 ta] 58)) w.heap.size (.slice la ln lc) q/\Below w.heap.size w (wr.alloc (.cells #[.string tn,.int .i64 tl,.int .i64 ta] 58))):=⟨hown.below (qb _ _),qd hbel (qb _ _)⟩
     have d0:(wr.alloc (.cells #[.string tn,.int .i64 tl,.int .i64 ta] 58)).cell? ⟨wr.heap.size,0,none⟩=some (.string tn):=by rw [World.cell?_alloc_mark];rfl
     generalize wr.alloc (.cells #[.string tn,.int .i64 tl,.int .i64 ta] 58)=wq at HQ d0 ⊢
     generalize wr.heap.size=tb at d0 ⊢
     clear c0 c1 c2 hown hbel
     have hA:=(HQ.out.1.below (qb wq (.cells #[.string tn] 9))).addRow (vx wq [tn] (by simp)) (by have:=HQ.out.2.size;simp;omega) (by simp;omega) rfl
     obtain ⟨a2,n2,c2,w2,hr,hn2,ho2,hb2⟩:=hA
     have hr':(Builtin.append_ #[28,28] 28 #[.slice la ln lc,.slice (some ⟨wq.heap.size,0,none⟩) 1 1]).run Tryz.prog (wq.alloc (.cells #[.string tn] 9))=.ok (.slice a2 n2 c2) w2:=hr
     have HF:Hid (∃ q:List ByteArray,q=ka :: (ts.take (i+1)).map (·.n)/\n2=q.length/\OwnS w2 w.heap.size (.slice a2 n2 c2) q/\Below w.heap.size w w2) :=
      ⟨q++[tn],HT.out.symm,hn2,ho2,(qd HQ.out.2 (qb _ _)).trans hb2⟩
     clear hr hn2 ho2 hb2 HT
     go_wp2_with (at_builtin;refine Lib.wpList_append_run _ rfl _ _ _ _ rfl _ _ rfl rfl _ _ hr' ?_)
     go_roundg (n - (i+1))
     case measure=>omega
     case rel=>exact ⟨i+1,(a2,n2,c2),rfl,by simp,by omega,Nat.le_refl _,HF⟩
    ·obtain rfl:i=n:=by omega
     have HF:Hid (ln=(ka :: ts.map (·.n)).length/\Row wr 1 la ln lc (strC (ka :: ts.map (·.n)))/\Below w.heap.size w wr):=by
      have e:q=ka :: ts.map (·.n):=by rw [hq,HN.out,List.take_length]
      rw [<-e]
      exact ⟨hln,hown.row hln,hbel⟩
     clear hq hln hown hbel
     go_wp2_with fail
     go_meet
     exact ⟨(la,ln,lc),rfl,HF⟩
  case rest =>
   obtain ⟨⟨a4,n4,k4⟩,rfl,HF⟩:=hcut
   simp only at HF
   have HC:Hid (Calls Tryz.prog 146 #[.pointer (some ⟨b,0,none⟩),.slice a4 n4 k4] wc fun e w'=>∃ v',e=.returned (.tuple #[])/\Bld w' b v' (tx (L++zq ts))/\OkL (L++zq ts)/\za wc b v w' v'):=by
    rw [HTL.out]
    exact qch (ka :: ts.map (·.n)) a4 n4 k4 b v L wc HF.out.2.1 HF.out.1 (by rw [HF.out.1];simp) (by rw [HF.out.1,List.length_cons,List.length_map,<-HN.out];omega) (fun x hx=>by
     rw [List.mem_cons,List.mem_map] at hx
     rcases hx with rfl | ⟨t,ht,rfl⟩
     ·exact HKS.out
     ·exact HS.out t ht) (HB.out.1.below HF.out.2.2) HB.out.2.1 (by have:=HB.out.2.2;omega)
   have HLL:Hid ((L++zq ts).length<=301):=by show _<=_;rw [HTL.out,List.length_append];have:=HB.out.2.2;simp;omega
   have HM0:Hid (za w b v wc v):=za.of_below HF.out.2.2
   clear HF HO HB
   go_wp2_with fail
   refine HC.out.mono ?_
   rintro e w5 ⟨v5,rfl,h1,h2,h3⟩
   have H5:Hid (Bld w5 b v5 (tx (L++zq ts))/\OkL (L++zq ts)/\za w b v w5 v5):=⟨h1,h2,HM0.out.trans h3⟩
   clear h1 h2 h3 HC HM0
   have HLO:Hid (∀ W:World,Below w.heap.size w W->Calls Tryz.prog 104 #[.slice ao n cap] W fun e w'=>∃ (l:List Int) (r:Int),e=.returned (.tuple #[.agg (ar9 l),.bool (decide (r=1))])/\qf8 ts l (decide (r=1))/\Below W.heap.size W w'):=fun W hW=>qar ts ao n cap W (HR.out.below hW) HN.out (by omega)
   have HBR:Hid (Row w5 3 ao n cap (tokC ts)):=rowF HR.out H5.out.2.2 HFR.out
   have HL5:Hid (Calls Tryz.prog 104 #[.slice ao n cap] w5 fun e w'=>∃ (l:List Int) (r:Int),e=.returned (.tuple #[.agg (ar9 l),.bool (decide (r=1))])/\qf8 ts l (decide (r=1))/\Below w5.heap.size w5 w'):=qar ts ao n cap w5 HBR.out HN.out (by omega)
   clear HLO
   go_wp2_with fail
   refine HL5.out.mono ?_
   rintro e w6 ⟨l',ri,rfl,hlo,hB6⟩
   have hri:decide (ri=1)=true:=hlo.2.1.2 ⟨l,HLF.out.1,HLF.out.2⟩
   have hll':l'=l:=by have:=hlo.2.2 hri;rw [HLF.out.1] at this;cases this;rfl
   subst hll'
   have hl9:=hlo.1
   obtain ⟨xa,xb,xc,xd,xe,xf,xg,xi,xj,hx9⟩:=nine hl9
   have hA:ar9 l'=#[.int .i64 xa,.int .i64 xb,.int .i64 xc,.int .i64 xd,.int .i64 xe,.int .i64 xf,.int .i64 xg,.int .i64 xi,.int .i64 xj]:=by rw [hx9];rfl
   have HM6:Hid (Bld w6 b v5 (tx (L++zq ts))/\OkL (L++zq ts)/\za w b v w6 v5):=⟨H5.out.1.below hB6,H5.out.2.1,H5.out.2.2.trans (za.of_below hB6)⟩
   have HB7:Hid (Bld (w6.alloc (.cells (ar9 l') 129)) b v5 (tx (L++zq ts++zu ts l' 0))/\OkL (L++zq ts++zu ts l' 0)/\za w b v (w6.alloc (.cells (ar9 l') 129)) v5/\(w6.alloc (.cells (ar9 l') 129)).heap[w6.heap.size]?=some (.cells (ar9 l') 129 (0,0))/\¬ Foot b v5 w6.heap.size):=by
    have e:L++zq ts++zu ts l' 0=L++zq ts:=by simp [zu]
    rw [e]
    exact ⟨HM6.out.1.below (qb _ _),HM6.out.2.1,HM6.out.2.2.trans (za.of_below (qb _ _)),heap_alloc_new _ _,fun hf=>by have:=HM6.out.1.lt _ hf;omega⟩
   rw [hri]
   clear hlo hB6 HL5 H5 HBR hri
   rw [hA]
   go_upto_region 9 with fail
   rw [<-hA]
   clear hx9 hA HM6
   generalize w6.alloc (.cells (ar9 l') 129)=w7 at HB7 ⊢
   generalize w6.heap.size=lb at HB7 ⊢
   have HL9:Hid (l'.length=9):=hl9
   clear hl9
   have HSTART:Hid (LvB ts l' L w b v w7 lb 1):=⟨v5,HB7.out⟩
   clear HB7
   go_wp2_with fail
   go_loopg [9] 9 (fun kx s9 wr=>∃ k:Nat,s9=.int .i64 k/\1<=k/\k<=9/\9 - k<=kx/\Hid (LvB ts l' L w b v wr lb k))
   case atStart=>exact ⟨1,rfl,Nat.le_refl _,by omega,by omega,HSTART⟩
   case round =>
    obtain ⟨k,rfl,hk1,hk9,hg,J⟩:=hrel
    clear HSTART
    by_cases hlt:k<9
    ·obtain ⟨vk,jB,jO,jM,jH,jF⟩:=J.out
     have hx:wr.cell? ⟨lb,k,none⟩=some (.int .i64 ((l'[k]?).getD 0)):=by rw [qe jH];exact qf7 HL9.out hlt
     have HLS:Hid (zu ts l' k=zu ts l' (k - 1)++qgg ts l' k):=by
      obtain ⟨q,rfl⟩:∃ q,k=q+1:=⟨k - 1,by omega⟩
      exact qgh ts l' q
     have HJ:Hid (Bld wr b vk (tx (L++zq ts++zu ts l' (k - 1)))/\OkL (L++zq ts++zu ts l' (k - 1))/\za w b v wr vk/\wr.heap[lb]?=some (.cells (ar9 l') 129 (0,0))/\¬ Foot b vk lb):=⟨jB,jO,jM,jH,jF⟩
     have HRk:Hid (Row wr 3 ao n cap (tokC ts)):=rowF HR.out jM HFR.out
     have HLN:Hid (qgg ts l' k=if (l'[k]?).getD 0=0 then [] else [(keyA ((l'[k]?).getD 0) :: zy ts k).map by8]):=rfl
     clear jB jO jM jH jF J
     generalize (l'[k]?).getD 0=x at hx HLN
     by_cases hx0:x=0
     ·have e1:(x != 0)=false:=by simpa using hx0
      have HF:Hid (LvB ts l' L w b v wr lb (k+1)):=by
       refine ⟨vk,?_⟩
       have e:zu ts l' (k+1 - 1)=zu ts l' (k - 1):=by rw [Nat.add_sub_cancel,HLS.out,HLN.out,if_pos hx0,List.append_nil]
       rw [e]
       exact HJ.out
      clear HJ HLS HLN hx0
      go_wp2_with fail
      go_roundg (9 - (k+1))
      case measure=>omega
      case rel=>exact ⟨k+1,by simp,by omega,by omega,Nat.le_refl _,HF⟩
     ·have e1:(x != 0)=true:=by simpa using hx0
      have HC:Hid (Calls Tryz.prog 161 #[.slice ao n cap,.int .i64 k,.int .i64 x] wr fun e w'=>∃ xa m xc,e=.returned (.slice xa m xc)/\m=(keyA x :: zy ts k).length/\Row w' 1 xa m xc (strC (keyA x :: zy ts k))/\Below wr.heap.size wr w'):=qgf ts ao n cap k x wr HRk.out HN.out hnn
      go_wp2_with fail
      refine HC.out.mono ?_
      rintro e w8 ⟨ya,ym,yc,rfl,hym,hrow,hB8⟩
      have HP:Hid (Calls Tryz.prog 146 #[.pointer (some ⟨b,0,none⟩),.slice ya ym yc] w8 fun e w'=>∃ v',e=.returned (.tuple #[])/\Bld w' b v' (tx (L++zq ts++zu ts l' k))/\OkL (L++zq ts++zu ts l' k)/\za w8 b vk w' v'):=by
       have e:L++zq ts++zu ts l' k=(L++zq ts++zu ts l' (k - 1))++[(keyA x :: zy ts k).map by8]:=by rw [HLS.out,HLN.out,if_neg hx0,<-List.append_assoc]
       rw [e]
       refine qch (keyA x :: zy ts k) ya ym yc b vk _ w8 hrow hym (by rw [hym];simp) (by rw [hym,List.length_cons];have:=qcx ts (k:Int);rw [<-HN.out] at this;omega) (fun z hz=>?_) (HJ.out.1.below hB8) HJ.out.2.1 (by have h1:=qec ts l' (k - 1);have h2:=HLL.out;rw [List.length_append];omega)
       rw [List.mem_cons] at hz
       rcases hz with rfl | hz
       ·exact qn0 x
       ·unfold zy at hz
        rw [List.mem_map] at hz
        obtain ⟨t,ht,rfl⟩:=hz
        exact HS.out t (List.mem_filter.1 ht).1
      have HQ:Hid (za w b v w8 vk/\w8.heap[lb]?=some (.cells (ar9 l') 129 (0,0))/\lb<w8.heap.size):=by
       have h1:=qf hB8 HJ.out.2.2.2.1
       exact ⟨HJ.out.2.2.1.trans (za.of_below hB8),h1,(Array.getElem?_eq_some_iff.1 h1).1⟩
      have HNF:Hid (¬ Foot b vk lb):=HJ.out.2.2.2.2
      clear hym hrow hB8 HC HJ HLS HLN HRk hx0
      go_wp2_with fail
      refine HP.out.mono ?_
      rintro e w9 ⟨v9,rfl,h1,h2,h3⟩
      have HF:Hid (LvB ts l' L w b v w9 lb (k+1)):=by
       refine ⟨v9,by rw [Nat.add_sub_cancel];exact h1,by rw [Nat.add_sub_cancel];exact h2,HQ.out.1.trans h3,?_,?_⟩
       ·rw [h3.1.block lb HQ.out.2.2 HNF.out];exact HQ.out.2.1
       ·rintro (rfl | hk)
        ·exact HNF.out (.inl rfl)
        ·rcases h3.2 lb hk with h4 | h4
         ·exact HNF.out (.inr h4)
         ·have:=HQ.out.2.2;omega
      clear h1 h2 h3 HP HQ HNF
      go_wp2_with fail
      go_roundg (9 - (k+1))
      case measure=>omega
      case rel=>exact ⟨k+1,by simp,by omega,by omega,Nat.le_refl _,HF⟩
    ·obtain rfl:k=9:=by omega
     obtain ⟨vk,jB,jO,jM,-,-⟩:=J.out
     have HF:Hid (Bld wr b vk (tx (L++(zq ts++zu ts l' 8)))/\OkL (L++(zq ts++zu ts l' 8))/\za w b v wr vk):=by
      rw [<-List.append_assoc]
      exact ⟨jB,jO,jM⟩
     clear jB jO jM J
     go_wp2_with fail
     go_end0
     exact ⟨vk,rfl,HF.out⟩
def km (s:ByteArray):List (List (List UInt8)):=if s=⟨#[]⟩ then [] else [([⟨#[37,115,116,97,114,116]⟩,s]:List ByteArray).map by8]
def vy (e:Int):List (List (List UInt8)):=if e=0 then [] else [[by8 ⟨#[37,101,120,112,101,99,116]⟩,dg 6 e.toNat []]]
def vq (G:Gm) (l:List Int):List (List (List UInt8)):=zq G.ts++zu G.ts l 8++km G.s++vy G.e++[[by8 ⟨#[37,37]⟩]]
def vr (G:Gm) (l:List Int):List (List (List UInt8)):=vq G l++G.rs.map fun r=>(vi r).map by8
def qmz (G:Gm) (t:ByteArray):Prop:=(MayP G->∀ l,levF G.ts=some l->by8 t=tx (vr G l))/\(¬ MayP G->t=⟨#[]⟩)
def NewL (w wr:World) (b:Nat) (L:List (List (List UInt8))):Prop:=∃ v,Bld wr b v (tx L)/\OkL L/\Below w.heap.size w wr/\∀ k,Foot b v k->w.heap.size<=k
theorem qm0:((List.range 10000).all fun n=>decide ((dg 6 n []).length<=100))=true:=by kernel_rfl
theorem qr6 (n:Nat) (h:n<=9999):(dg 6 n []).length<=100:=by
 have:=List.all_eq_true.1 qm0 n (List.mem_range.2 (by omega))
 simpa using this
theorem NewL.put {w wr wr':World} {b:Nat} {v v':Value} {L:List (List (List UInt8))} (hb:Below w.heap.size w wr) (hf:∀ k,Foot b v k->w.heap.size<=k) (h1:Bld wr' b v' (tx L)) (h2:OkL L) (hm:za wr b v wr' v'):NewL w wr' b L:=by
 obtain ⟨-,-,h4,-⟩:=NewB.step hb hf h1 hm
 refine ⟨v',h1,h2,h4,?_⟩
 rintro k (rfl | hk)
 ·exact hf k (.inl rfl)
 ·rcases hm.2 k hk with h7 | h7
  ·exact hf k (.inr h7)
  ·exact Nat.le_trans hb.size h7
theorem NewL.below {w wr wr':World} {b:Nat} {L:List (List (List UInt8))} (h:NewL w wr b L) (hb:Below wr.heap.size wr wr'):NewL w wr' b L:=by
 obtain ⟨v,h1,h2,h3,h4⟩:=h
 exact ⟨v,h1.below hb,h2,qd h3 hb,h4⟩
theorem NewL.bel {w wr:World} {b:Nat} {L:List (List (List UInt8))} (h:NewL w wr b L):Below w.heap.size w wr:=by
 obtain ⟨v,-,-,h3,-⟩:=h
 exact h3
theorem qcr (l:List ByteArray) (ao:Option Addr) (n cap b:Nat) (L:List (List (List UInt8))) (w W:World) (hr:Row W 1 ao n cap (strC l)) (hn:n=l.length) (h1:1<=n) (hnn:n<=1000) (hs:∀ x∈l,x.size<=100) (hB:NewL w W b L) (hl:L.length<=400) :
  Calls Tryz.prog 146 #[.pointer (some ⟨b,0,none⟩),.slice ao n cap] W fun e w'=>e=.returned (.tuple #[])/\NewL w w' b (L++[l.map by8]):=by
 obtain ⟨v,b1,b2,b3,b4⟩:=hB
 refine (qch l ao n cap b v L W hr hn h1 hnn hs b1 b2 hl).mono ?_
 rintro e w' ⟨v',rfl,c1,c2,c3⟩
 exact ⟨rfl,NewL.put b3 b4 c1 c2 c3⟩
theorem qk8 (r:Ru) (xa:Option Addr) (xc b:Nat) (L:List (List (List UInt8))) (w W:World) (hr:Row W 1 xa r.r.length xc (strC r.r)) (hs:r.l.size<=100/\r.p.size<=100/\r.r.length<=100/\∀ x∈r.r,x.size<=100) (hB:NewL w W b L) (hl:L.length<=400) :
  Calls Tryz.prog 148 #[.pointer (some ⟨b,0,none⟩),.agg #[.string r.l,.slice xa r.r.length xc,.string r.p]] W fun e w'=>e=.returned (.tuple #[])/\NewL w w' b (L++[(vi r).map by8]):=by
 obtain ⟨v,b1,b2,b3,b4⟩:=hB
 refine (qiw r xa xc b v L W hr hs b1 b2 hl).mono ?_
 rintro e w' ⟨v',rfl,c1,c2,c3⟩
 exact ⟨rfl,NewL.put b3 b4 c1 c2 c3⟩
theorem qm1 (w:World):NewL w (w.alloc (.cells #[.pointer none,.slice none 0 0] 165)) w.heap.size []:=by
 obtain ⟨h1,h2,h3⟩:=qea w w (Below.refl _ _)
 exact ⟨.slice none 0 0,h1,fun _ h=>(by cases h),h2,h3⟩
theorem qix (ts:List Tk) (l:List Int) (ao:Option Addr) (n cap b:Nat) (w W:World) (hr:Row w 3 ao n cap (tokC ts)) (hn:n=ts.length) (hnn:n<=100) (hs:∀ t∈ts,t.n.size<=100) (hlf:levF ts=some l) (hng:qaf l) (hB:NewL w W b []) :
  Calls Tryz.prog 145 #[.pointer (some ⟨b,0,none⟩),.slice ao n cap] W fun e w'=>e=.returned (.tuple #[])/\NewL w w' b (zq ts++zu ts l 8):=by
 obtain ⟨v,b1,b2,b3,b4⟩:=hB
 refine (qgi ts l ao n cap b v [] W (hr.below b3) hn hnn hs hlf hng (fun h0 a ha hf=>?_) b1 b2 (by simp)).mono ?_
 ·obtain ⟨g,o,e,hc⟩:=hr.at h0
  rw [ha] at e
  cases e
  have h1:=b4 _ hf
  have h2:(tokC ts)[0]?=some ((tokC ts)[0]'(by rw [hr.len];omega)):=List.getElem?_eq_getElem _
  have h3:=World.block_lt_of_cell? w _ (hc 0 _ h2)
  simp only at h1 h3
  omega
 ·rintro e w' ⟨v',rfl,c1,c2,c3⟩
  rw [List.nil_append] at c1 c2
  exact ⟨rfl,NewL.put b3 b4 c1 c2 c3⟩
def qn1 (F:Nat):Prop:=∀ (G:Gm) (h:Hd) (w:World) (T:ByteArray),IsG w h G->Pow w->qmz G T->Calls Tryz.prog F #[gv h G] w fun e w'=>e=.returned (.string T)/\Below w.heap.size w w'
theorem qm2:qn1 125:=by
 intro G h w T hG hpow hT
 obtain ⟨r,hr⟩:=zr (MayP G)
 have HM:Hid (∀ W:World,Below w.heap.size w W->Calls Tryz.prog 80 #[gv h G] W fun e w'=>e=.returned (.bool r)/\Below W.heap.size W w'):=fun W hW=>qce G h W r (hG.below hW) hr
 obtain ⟨ts,st,ex,rs⟩:=G
 obtain ⟨ta,tc,ra,rc⟩:=h
 have hm1:ts.length<=tc/\tc<=9223372036854775807:=by have h1:=hG.tok.le;have h2:=hG.tok.max;simp only at h1 h2;unfold maxLen at h2;omega
 have hm2:=kj hG.rul
 simp only at hm2
 have hs1:ts.length<=100:=hG.small.nt
 have hs2:rs.length<=200:=hG.small.nr
 have HG:Hid (IsG w ⟨ta,tc,ra,rc⟩ ⟨ts,st,ex,rs⟩):=hG
 have HP:Hid (Pow w):=hpow
 have HT:Hid (qmz ⟨ts,st,ex,rs⟩ T):=hT
 have HR:Hid (r=true↔MayP ⟨ts,st,ex,rs⟩):=hr
 unfold gv at HM ⊢
 simp only at HM ⊢
 clear hG hpow hT hr
 obtain ⟨tn,hTN⟩:∃ n,ts.length=n:=⟨_,rfl⟩
 have HTN:Hid (ts.length=tn):=hTN
 obtain ⟨rn,hRN⟩:∃ n,rs.length=n:=⟨_,rfl⟩
 have HRN:Hid (rs.length=rn):=hRN
 rw [hTN] at hm1 hs1 HM ⊢
 rw [hRN] at hm2 hs2 HM ⊢
 clear hTN hRN
 go_enter Tryz.func125,Tryz.ntmps125
 go_upto_region 1 with fail
 have c0:(w.alloc (.cells #[.slice ta tn tc,.string st,.int .i64 ex,.slice ra rn rc] 25)).cell? ⟨w.heap.size,0,none⟩=some (.slice ta tn tc):=by rw [World.cell?_alloc_mark];rfl
 have c1:(w.alloc (.cells #[.slice ta tn tc,.string st,.int .i64 ex,.slice ra rn rc] 25)).cell? ⟨w.heap.size,1,none⟩=some (.string st):=by rw [World.cell?_alloc_mark];rfl
 have c2:(w.alloc (.cells #[.slice ta tn tc,.string st,.int .i64 ex,.slice ra rn rc] 25)).cell? ⟨w.heap.size,2,none⟩=some (.int .i64 ex):=by rw [World.cell?_alloc_mark];rfl
 have c3:(w.alloc (.cells #[.slice ta tn tc,.string st,.int .i64 ex,.slice ra rn rc] 25)).cell? ⟨w.heap.size,3,none⟩=some (.slice ra rn rc):=by rw [World.cell?_alloc_mark];rfl
 have HB:Hid (Below w.heap.size w (w.alloc (.cells #[.slice ta tn tc,.string st,.int .i64 ex,.slice ra rn rc] 25))):=qb _ _
 generalize w.alloc (.cells #[.slice ta tn tc,.string st,.int .i64 ex,.slice ra rn rc] 25)=wq at c0 c1 c2 c3 HB ⊢
 obtain ⟨gb,hgb⟩:∃ gb,gb=w.heap.size:=⟨_,rfl⟩
 rw [<-hgb] at c0 c1 c2 c3 ⊢
 clear hgb
 go_wp2_with fail
 refine (HM.out _ HB.out).mono ?_
 rintro e w1 ⟨rfl,hB1⟩
 have C0:Hid (∀ W:World,Below w1.heap.size w1 W->W.cell? ⟨gb,0,none⟩=some (.slice ta tn tc)/\W.cell? ⟨gb,1,none⟩=some (.string st)/\W.cell? ⟨gb,2,none⟩=some (.int .i64 ex)/\W.cell? ⟨gb,3,none⟩=some (.slice ra rn rc)):=fun W hW=>⟨qj (qd hB1 hW) c0,qj (qd hB1 hW) c1,qj (qd hB1 hW) c2,qj (qd hB1 hW) c3⟩
 have HB1:Hid (Below w.heap.size w w1):=qd HB.out hB1
 clear c0 c1 c2 c3 HB hB1 HM
 cases r
 ·have HF:Hid (T=⟨#[]⟩):=HT.out.2 (fun h=>by have:=HR.out.2 h;cases this)
  go_wp2_with fail
  go_ret
  exact ⟨by rw [HF.out];rfl,HB1.out⟩
 ·have hMay:MayP ⟨ts,st,ex,rs⟩:=HR.out.1 rfl
  obtain ⟨l,hl1,hl2⟩:=hMay.tk.2
  have HTX:Hid (by8 T=tx (vr ⟨ts,st,ex,rs⟩ l)):=HT.out.1 hMay l hl1
  have HGW:Hid (IsG w1 ⟨ta,tc,ra,rc⟩ ⟨ts,st,ex,rs⟩/\Pow w1):=⟨HG.out.below HB1.out,HP.out.below HB1.out⟩
  have he0:0<=ex:=hMay.e0
  have he1:ex<=9999:=hMay.e1
  have HN0:Hid (NewL w1 (w1.alloc (.cells #[.pointer none,.slice none 0 0] 165)) w1.heap.size []):=qm1 w1
  have HTK:Hid (∀ (W:World) (b:Nat),NewL w1 W b []->Calls Tryz.prog 145 #[.pointer (some ⟨b,0,none⟩),.slice ta tn tc] W fun e w'=>e=.returned (.tuple #[])/\NewL w1 w' b (zq ts++zu ts l 8)):=fun W b hW=>by
   have:=qix ts l ta ts.length tc b w1 W HGW.out.1.tok rfl HGW.out.1.small.nt HGW.out.1.small.tk hl1 hl2 hW
   rwa [HTN.out] at this
  clear hMay hl1 hl2 HG HP HT HR
  go_upto_region 4 with fail
  generalize w1.alloc (.cells #[.pointer none,.slice none 0 0] 165)=w2 at HN0 ⊢
  obtain ⟨pb,hpb⟩:∃ pb,pb=w1.heap.size:=⟨_,rfl⟩
  rw [<-hpb] at HN0 ⊢
  clear hpb
  obtain ⟨c0,-,-,-⟩:=C0.out w2 HN0.out.bel
  go_wp2_with fail
  refine (HTK.out _ _ HN0.out).mono ?_
  rintro e w3 ⟨rfl,hN3⟩
  have HN3:Hid (NewL w1 w3 pb (zq ts++zu ts l 8)):=hN3
  have HLN3:Hid ((zq ts++zu ts l 8).length<=9):=by
   show _<=_
   rw [List.length_append]
   have:=qec ts l 8
   have h2:(zq ts).length<=1:=by unfold zq;split <;> simp
   omega
  clear hN3 HTK HN0 c0
  obtain ⟨-,c1,-,-⟩:=C0.out w3 HN3.out.bel
  obtain ⟨se,hse⟩:∃ pe:Bool,(st.toList == [])=pe:=⟨_,rfl⟩
  go_upto_if 14 with fail
  have HSE:Hid (se=true↔st=⟨#[]⟩):=by show _↔_;rw [<-hse];exact zo st
  clear hse
  go_cut [15] (fun s15 wd=>Hid (NewL w1 wd pb (zq ts++zu ts l 8++km st)))
  case first =>
   by_cases hst:st=⟨#[]⟩
   ·have h1:se=true:=HSE.out.2 hst
    subst h1
    have HF:Hid (NewL w1 w3 pb (zq ts++zu ts l 8++km st)):=by
     have e:km st=[]:=by unfold km;rw [if_pos hst]
     rw [e,List.append_nil];exact HN3.out
    clear hst
    go_wp2_with fail
    go_meet
    exact HF
   ·have h1:se=false:=zb HSE.out hst
    subst h1
    have HC:Hid (Calls Tryz.prog 146 #[.pointer (some ⟨pb,0,none⟩),.slice (some ⟨w3.heap.size,0,none⟩) 2 2] (w3.alloc (.cells #[.string ⟨#[37,115,116,97,114,116]⟩,.string st] 9)) fun e w'=>e=.returned (.tuple #[])/\NewL w1 w' pb (zq ts++zu ts l 8++km st)):=by
     have e:km st=[([⟨#[37,115,116,97,114,116]⟩,st]:List ByteArray).map by8]:=by unfold km;rw [if_neg hst]
     rw [e]
     exact qcr [⟨#[37,115,116,97,114,116]⟩,st] _ 2 2 pb _ w1 _ (vx w3 [⟨#[37,115,116,97,114,116]⟩,st] (by simp)) rfl (by omega) (by omega) (fun x hx=>by
      simp only [List.mem_cons,List.not_mem_nil,or_false] at hx
      rcases hx with rfl | rfl
      ·exact (by decide:(⟨#[37,115,116,97,114,116]⟩:ByteArray).size<=100)
      ·exact HGW.out.1.small.st) (HN3.out.below (qb _ _)) (by have:=HLN3.out;omega)
    clear hst
    go_wp2_with fail
    refine HC.out.mono ?_
    rintro e w4 ⟨rfl,hN4⟩
    have HN4:Hid (NewL w1 w4 pb (zq ts++zu ts l 8++km st)):=hN4
    clear hN4 HC
    go_wp2_with fail
    go_meet
    exact HN4
  case rest =>
   obtain ⟨w4,hw4⟩:∃ w4,w4=wc:=⟨_,rfl⟩
   subst wc
   have HN4:Hid (NewL w1 w4 pb (zq ts++zu ts l 8++km st)):=hcut
   have HLN4:Hid ((zq ts++zu ts l 8++km st).length<=10):=by
    show _<=_
    rw [List.length_append]
    have h2:(km st).length<=1:=by unfold km;split <;> simp
    have:=HLN3.out
    omega
   clear hcut HN3 HLN3 c1 HSE
   obtain ⟨-,-,c2,-⟩:=C0.out w4 HN4.out.bel
   go_upto_if 21 with fail
   go_cut [22] (fun s22 wd=>Hid (NewL w1 wd pb (zq ts++zu ts l 8++km st++vy ex)))
   case first =>
    by_cases hex:ex=0
    ·have h1:(ex != 0)=false:=by simpa using hex
     have HF:Hid (NewL w1 w4 pb (zq ts++zu ts l 8++km st++vy ex)):=by
      have e:vy ex=[]:=by unfold vy;rw [if_pos hex]
      rw [e,List.append_nil];exact HN4.out
     clear hex
     go_wp2_with fail
     go_meet
     exact HF
    ·have h1:(ex != 0)=true:=by simpa using hex
     have HC:Hid (Calls Tryz.prog 147 #[.int .i64 ex] w4 fun e w'=>∃ t,e=.returned (.string t)/\by8 t=dg 6 ex.toNat []/\Below w4.heap.size w4 w'):=by
      have:=qmy ex.toNat w4 (by omega) (HGW.out.2.below HN4.out.bel)
      rwa [show ((ex.toNat:Nat):Int)=ex by omega] at this
     go_wp2_with fail
     refine HC.out.mono ?_
     rintro e w5 ⟨t,rfl,ht,hB5⟩
     have hts:t.size<=100:=by
      rw [<-qy,ht]
      exact qr6 _ (by omega)
     have HC2:Hid (Calls Tryz.prog 146 #[.pointer (some ⟨pb,0,none⟩),.slice (some ⟨w5.heap.size,0,none⟩) 2 2] (w5.alloc (.cells #[.string ⟨#[37,101,120,112,101,99,116]⟩,.string t] 9)) fun e w'=>e=.returned (.tuple #[])/\NewL w1 w' pb (zq ts++zu ts l 8++km st++vy ex)):=by
      have e:vy ex=[([⟨#[37,101,120,112,101,99,116]⟩,t]:List ByteArray).map by8]:=by unfold vy;rw [if_neg hex,<-ht];rfl
      rw [e]
      exact qcr [⟨#[37,101,120,112,101,99,116]⟩,t] _ 2 2 pb _ w1 _ (vx w5 [⟨#[37,101,120,112,101,99,116]⟩,t] (by simp)) rfl (by omega) (by omega) (fun x hx=>by
       simp only [List.mem_cons,List.not_mem_nil,or_false] at hx
       rcases hx with rfl | rfl
       ·exact (by decide:(⟨#[37,101,120,112,101,99,116]⟩:ByteArray).size<=100)
       ·exact hts) ((HN4.out.below hB5).below (qb _ _)) (by have:=HLN4.out;omega)
     clear hex ht hB5 HC
     go_wp2_with fail
     refine HC2.out.mono ?_
     rintro e w6 ⟨rfl,hN6⟩
     have HN6:Hid (NewL w1 w6 pb (zq ts++zu ts l 8++km st++vy ex)):=hN6
     clear hN6 HC2
     go_wp2_with fail
     go_meet
     exact HN6
   case rest =>
    obtain ⟨w6,hw6⟩:∃ w6,w6=wc:=⟨_,rfl⟩
    subst wc
    have HN6:Hid (NewL w1 w6 pb (zq ts++zu ts l 8++km st++vy ex)):=hcut
    have HLN6:Hid ((zq ts++zu ts l 8++km st++vy ex).length<=11):=by
     show _<=_
     rw [List.length_append]
     have h2:(vy ex).length<=1:=by unfold vy;split <;> simp
     have:=HLN4.out
     omega
    have HC:Hid (Calls Tryz.prog 146 #[.pointer (some ⟨pb,0,none⟩),.slice (some ⟨w6.heap.size,0,none⟩) 1 1] (w6.alloc (.cells #[.string ⟨#[37,37]⟩] 9)) fun e w'=>e=.returned (.tuple #[])/\NewL w1 w' pb (vq ⟨ts,st,ex,rs⟩ l)) :=
     qcr [⟨#[37,37]⟩] _ 1 1 pb _ w1 _ (vx w6 [⟨#[37,37]⟩] (by simp)) rfl (by omega) (by omega) (fun x hx=>by
      rw [List.mem_singleton] at hx
      subst hx
      exact (by decide:(⟨#[37,37]⟩:ByteArray).size<=100)) (HN6.out.below (qb _ _)) (by have:=HLN6.out;simp only;omega)
    have HLH:Hid ((vq ⟨ts,st,ex,rs⟩ l).length<=12):=by
     show _<=_
     unfold vq
     rw [List.length_append]
     have:=HLN6.out
     simp only [List.length_cons,List.length_nil]
     omega
    clear hcut HN4 HLN4 c2 HN6 HLN6
    go_wp2_with fail
    refine HC.out.mono ?_
    rintro e w7 ⟨rfl,hN7⟩
    have HN7:Hid (NewL w1 w7 pb (vq ⟨ts,st,ex,rs⟩ l)):=hN7
    clear hN7 HC
    obtain ⟨-,-,-,c3⟩:=C0.out w7 HN7.out.bel
    go_upto_block 0 with fail
    go_cut [32] (fun s32 wd=>Hid (NewL w1 wd pb (vr ⟨ts,st,ex,rs⟩ l)))
    case first =>
     go_wp2_with fail
     go_loopg [32] rn (fun kx s32 wr=>∃ k:Nat,s32=.int .i64 k/\k<=rn/\rn - k<=kx/\Hid (NewL w1 wr pb (vq ⟨ts,st,ex,rs⟩ l++(rs.take k).map fun r=>(vi r).map by8)))
     case atStart=>exact ⟨0,rfl,Nat.zero_le _,by omega,(by rw [List.take_zero,List.map_nil,List.append_nil];exact HN7)⟩
     case round =>
      obtain ⟨k,rfl,hk,hg,J⟩:=hrel
      clear HN7 c3
      by_cases hlt:k<rn
      ·obtain ⟨x,hx⟩:∃ x,rs[k]?=some x:=⟨rs[k]'(by rw [HRN.out];exact hlt),List.getElem?_eq_getElem _⟩
       have hrul:=HGW.out.1.rul.below J.out.bel
       simp only at hrul
       obtain ⟨rb,o,xa,xc,hra,p0,p1,p2,hrow⟩:=hrul.at hx
       subst hra
       have HSX:Hid (x.l.size<=100/\x.p.size<=100/\x.r.length<=100/\∀ y∈x.r,y.size<=100):=HGW.out.1.small.rl x (List.mem_of_getElem? hx)
       have HE:Hid ((vq ⟨ts,st,ex,rs⟩ l++(rs.take k).map fun r=>(vi r).map by8)++[(vi x).map by8]=vq ⟨ts,st,ex,rs⟩ l++(rs.take (k+1)).map fun r=>(vi r).map by8):=by
        show _=_
        rw [zn hx,List.map_append,<-List.append_assoc]
        rfl
       have HC:Hid (∀ W:World,Below wr.heap.size wr W->Calls Tryz.prog 148 #[.pointer (some ⟨pb,0,none⟩),.agg #[.string x.l,.slice xa x.r.length xc,.string x.p]] W fun e w'=>e=.returned (.tuple #[])/\NewL w1 w' pb (vq ⟨ts,st,ex,rs⟩ l++(rs.take (k+1)).map fun r=>(vi r).map by8)):=fun W hW=>by
        have:=qk8 x xa xc pb _ w1 W (hrow.below hW) HSX.out (J.out.below hW) (by rw [List.length_append,List.length_map,List.length_take,HRN.out];have:=HLH.out;omega)
        rwa [HE.out] at this
       clear hx hrow hrul HE
       go_wp2_with fail
       refine (HC.out _ (qb _ _)).mono ?_
       rintro e w8 ⟨rfl,hN8⟩
       have HN8:Hid (NewL w1 w8 pb (vq ⟨ts,st,ex,rs⟩ l++(rs.take (k+1)).map fun r=>(vi r).map by8)):=hN8
       clear hN8 HC J
       go_wp2_with fail
       go_roundg (rn - (k+1))
       case measure=>omega
       case rel=>exact ⟨k+1,by simp,by omega,Nat.le_refl _,HN8⟩
      ·obtain rfl:k=rn:=by omega
       have HF:Hid (NewL w1 wr pb (vr ⟨ts,st,ex,rs⟩ l)):=by
        have:=J.out
        rwa [<-HRN.out,List.take_length] at this
       clear J
       go_wp2_with fail
       go_meet
       exact HF
    case rest =>
     obtain ⟨v,hB,hok,hbel,hfoot⟩:=hcut.out
     have hne:tx (vr ⟨ts,st,ex,rs⟩ l)≠[]:=by
      unfold vr vq
      rw [qeb,qeb]
      intro h
      have:=congrArg List.length h
      simp [tx,qbn] at this
     have hlen:(tx (vr ⟨ts,st,ex,rs⟩ l)).length<=100000000:=by
      have h1:=qh1 hok
      have h2:(vr ⟨ts,st,ex,rs⟩ l).length<=212:=by
       unfold vr
       rw [List.length_append,List.length_map]
       have:=HLH.out
       simp only
       rw [HRN.out]
       omega
      omega
     have HC:Hid (Calls Tryz.prog 149 #[.pointer (some ⟨pb,0,none⟩)] wc fun e w'=>e=.returned (.string T)/\Kept (Foot pb v) wc w'):=by
      have:=qdt pb v _ wc hB hne hlen
      have e:(⟨(tx (vr ⟨ts,st,ex,rs⟩ l)).toArray⟩:ByteArray)=T:=by rw [<-HTX.out];apply qlx;rfl
      rwa [e] at this
     have HK:Hid (∀ w',Kept (Foot pb v) wc w'->Below w.heap.size w w'):=fun w' hk=>HB1.out.trans ((hbel.trans (hk.below hbel.size (fun k hk hf=>by have:=hfoot k hf;omega))).mono HB1.out.size)
     clear hB hok hbel hfoot hne hlen hcut
     go_wp2_with fail
     refine HC.out.mono ?_
     rintro e w9 ⟨rfl,hK⟩
     have HF:Hid (Below w.heap.size w w9):=HK.out _ hK
     clear hK HC
     go_wp2_with fail
     go_ret
     exact ⟨rfl,HF.out⟩
structure OwnG (w:World) (base:Nat) (h:Hd) (G:Gm) (qs:List (Ru × Option Addr × Nat)):Prop where
 tok:w.ownsRow base 58 3 (.slice h.ta G.ts.length h.tc) G.ts.length (tokC G.ts)
 rul:w.ownsRow base 55 3 (.slice h.ra G.rs.length h.rc) G.rs.length (rulC qs)
 map:qs.map (·.1)=G.rs
 row:∀ q∈qs,OwnS w base (.slice q.2.1 q.1.r.length q.2.2) q.1.r
theorem OwnG.isG {w:World} {base:Nat} {h:Hd} {G:Gm} {qs:List (Ru × Option Addr × Nat)} (o:OwnG w base h G qs) (s:Small G):IsG w h G:=⟨Row.of_own o.tok,⟨qs,o.map,Row.of_own o.rul,fun q hq=>(o.row q hq).row rfl⟩,s⟩
theorem OwnG.below {w w':World} {base:Nat} {h:Hd} {G:Gm} {qs:List (Ru × Option Addr × Nat)} (o:OwnG w base h G qs) (hb:Below w.heap.size w w'):OwnG w' base h G qs :=
 ⟨qh o.tok (fun i hi=>hb.block i (World.ownsRow.lt o.tok i hi).2),qh o.rul (fun i hi=>hb.block i (World.ownsRow.lt o.rul i hi).2),o.map,fun q hq=>(o.row q hq).below hb⟩
def bN:ByteArray:=⟨#[78]⟩
def bP:ByteArray:=⟨#[80]⟩
def bM:ByteArray:=⟨#[77]⟩
def bE:ByteArray:=⟨#[101]⟩
def e0:ByteArray:=⟨#[]⟩
def qu:Gm:=⟨[⟨bN,0,0⟩,⟨bP,1,1⟩,⟨bM,2,1⟩],e0,0,[⟨bE,[bE,bP,bE],e0⟩,⟨bE,[bE,bM,bE],e0⟩,⟨bE,[bN],e0⟩]⟩
theorem qan:Small qu:=by
 have hN:bN.size<=100:=by decide
 have hP:bP.size<=100:=by decide
 have hM:bM.size<=100:=by decide
 have hE:bE.size<=100:=by decide
 have h0:e0.size<=100:=by decide
 refine ⟨by decide,by decide,h0,?_,?_⟩
 ·intro t ht
  simp only [qu,List.mem_cons,List.not_mem_nil,or_false] at ht
  rcases ht with rfl | rfl | rfl
  ·exact hN
  ·exact hP
  ·exact hM
 ·intro r hr
  simp only [qu,List.mem_cons,List.not_mem_nil,or_false] at hr
  rcases hr with rfl | rfl | rfl
  all_goals
   refine ⟨hE,h0,by decide,?_⟩
   intro x hx
   simp only [List.mem_cons,List.not_mem_nil,or_false] at hx
  ·rcases hx with rfl | rfl | rfl
   ·exact hE
   ·exact hP
   ·exact hE
  ·rcases hx with rfl | rfl | rfl
   ·exact hE
   ·exact hM
   ·exact hE
  ·subst hx;exact hN
theorem vz (w:World) (base E k n:Nat) (cs:List Value) (hb:base<=w.heap.size) (hl:cs.length=n * k) (hn:n<=1000):(w.alloc (.cells cs.toArray E)).ownsRow base E k (.slice (some ⟨w.heap.size,0,none⟩) n n) n cs:=by
 refine ⟨hl,.inr ⟨w.heap.size,n,cs.toArray,rfl,hb,heap_alloc_new _ _,Nat.le_refl _,by unfold maxLen;omega,by simp [hl],?_⟩⟩
 rw [List.toList_toArray,List.take_of_length_le (by omega)]
def qjd (n:Nat):Hd:=⟨some ⟨n+1,0,none⟩,3,some ⟨n+1+1+1+1+1,0,none⟩,3⟩
def qbo (n:Nat):List (Ru × Option Addr × Nat):=[(⟨bE,[bE,bP,bE],e0⟩,some ⟨n+1+1,0,none⟩,3),(⟨bE,[bE,bM,bE],e0⟩,some ⟨n+1+1+1,0,none⟩,3),(⟨bE,[bN],e0⟩,some ⟨n+1+1+1+1,0,none⟩,1)]
def qgj (w:World):World:=(((((w.alloc (.cells #[.slice (some ⟨w.heap.size+1,0,none⟩) 3 3,.string e0,.int .i64 0,.slice (some ⟨w.heap.size+1+1+1+1+1,0,none⟩) 3 3] 25)).alloc (.cells (tokC qu.ts).toArray 58)).alloc (.cells (strC [bE,bP,bE]).toArray 9)).alloc (.cells (strC [bE,bM,bE]).toArray 9)).alloc (.cells (strC [bN]).toArray 9)).alloc (.cells (rulC (qbo w.heap.size)).toArray 55)
theorem qpj (w:World):OwnG (qgj w) w.heap.size (qjd w.heap.size) qu (qbo w.heap.size)/\Below w.heap.size w (qgj w):=by
 unfold qgj
 generalize hw0:w.alloc (.cells #[.slice (some ⟨w.heap.size+1,0,none⟩) 3 3,.string e0,.int .i64 0,.slice (some ⟨w.heap.size+1+1+1+1+1,0,none⟩) 3 3] 25)=w0
 have s0:w0.heap.size=w.heap.size+1:=by rw [<-hw0];exact qt _ _
 have b0:Below w.heap.size w w0:=by rw [<-hw0];exact qb _ _
 generalize hw1:w0.alloc (.cells (tokC qu.ts).toArray 58)=w1
 have s1:w1.heap.size=w.heap.size+1+1:=by rw [<-hw1,qt,s0]
 have b1:Below w0.heap.size w0 w1:=by rw [<-hw1];exact qb _ _
 have o1:w1.ownsRow w.heap.size 58 3 (.slice (some ⟨w.heap.size+1,0,none⟩) 3 3) 3 (tokC qu.ts):=by
  rw [<-hw1,<-s0]
  exact vz w0 _ 58 3 3 _ (by omega) rfl (by omega)
 generalize hw2:w1.alloc (.cells (strC [bE,bP,bE]).toArray 9)=w2
 have s2:w2.heap.size=w.heap.size+1+1+1:=by rw [<-hw2,qt,s1]
 have b2:Below w1.heap.size w1 w2:=by rw [<-hw2];exact qb _ _
 have r2:OwnS w2 w.heap.size (.slice (some ⟨w.heap.size+1+1,0,none⟩) 3 3) [bE,bP,bE]:=by
  rw [<-hw2,<-s1]
  exact vz w1 _ 9 1 3 (strC [bE,bP,bE]) (by omega) rfl (by omega)
 generalize hw3:w2.alloc (.cells (strC [bE,bM,bE]).toArray 9)=w3
 have s3:w3.heap.size=w.heap.size+1+1+1+1:=by rw [<-hw3,qt,s2]
 have b3:Below w2.heap.size w2 w3:=by rw [<-hw3];exact qb _ _
 have r3:OwnS w3 w.heap.size (.slice (some ⟨w.heap.size+1+1+1,0,none⟩) 3 3) [bE,bM,bE]:=by
  rw [<-hw3,<-s2]
  exact vz w2 _ 9 1 3 (strC [bE,bM,bE]) (by omega) rfl (by omega)
 generalize hw4:w3.alloc (.cells (strC [bN]).toArray 9)=w4
 have s4:w4.heap.size=w.heap.size+1+1+1+1+1:=by rw [<-hw4,qt,s3]
 have b4:Below w3.heap.size w3 w4:=by rw [<-hw4];exact qb _ _
 have r4:OwnS w4 w.heap.size (.slice (some ⟨w.heap.size+1+1+1+1,0,none⟩) 1 1) [bN]:=by
  rw [<-hw4,<-s3]
  exact vz w3 _ 9 1 1 (strC [bN]) (by omega) rfl (by omega)
 have o5:(w4.alloc (.cells (rulC (qbo w.heap.size)).toArray 55)).ownsRow w.heap.size 55 3 (.slice (some ⟨w.heap.size+1+1+1+1+1,0,none⟩) 3 3) 3 (rulC (qbo w.heap.size)):=by
  have:=vz w4 w.heap.size 55 3 3 (rulC (qbo w.heap.size)) (by omega) rfl (by omega)
  rwa [s4] at this
 have b5:Below w4.heap.size w4 (w4.alloc (.cells (rulC (qbo w.heap.size)).toArray 55)):=qb _ _
 generalize w4.alloc (.cells (rulC (qbo w.heap.size)).toArray 55)=w5 at o5 b5 ⊢
 have b14:Below w1.heap.size w1 w5:=qd (qd (qd b2 b3) b4) b5
 refine ⟨⟨qh o1 (fun i hi=>b14.block i (World.ownsRow.lt o1 i hi).2),o5,rfl,?_⟩,qd b0 (qd b1 b14)⟩
 intro q hq
 simp only [qbo,List.mem_cons,List.not_mem_nil,or_false] at hq
 rcases hq with rfl | rfl | rfl
 ·exact ((r2.below b3).below b4).below b5
 ·exact (r3.below b4).below b5
 ·exact r4.below b5
theorem qdb (w:World):Calls Tryz.prog 25 #[] w fun e w'=>∃ h qs,e=.returned (gv h qu)/\OwnG w' w.heap.size h qu qs/\Below w.heap.size w w':=by
 have HS:Hid (OwnG (qgj w) w.heap.size (qjd w.heap.size) qu (qbo w.heap.size)/\Below w.heap.size w (qgj w)):=qpj w
 go_enter Tryz.func25,Tryz.ntmps25
 go_wp2
 refine bodyPost_ret (v:=gv (qjd w.heap.size) qu) (by simp [results,Tryz.results25,go_sem,gv,qjd,qu,e0]) rfl ?_
 exact ⟨_,_,rfl,HS.out⟩
theorem ql3 {w:World} {base E k g n cap j:Nat} {cs:List Value} {u:Value} (h:w.ownsRow base E k (.slice (some ⟨g,0,none⟩) n cap) n cs) :
  (w.setCell ⟨g,j,none⟩ u).ownsRow base E k (.slice (some ⟨g,0,none⟩) n cap) n (cs.set j u):=by
 refine ⟨by rw [List.length_set];exact h.1,?_⟩
 rcases h.2 with ⟨hv,-⟩ | ⟨g',cap',cur,hv,hb,hh,hn,hm,hs,ht⟩
 ·cases hv
 ·cases hv
  refine .inr ⟨g,cap,cur.setIfInBounds j u,rfl,hb,?_,hn,hm,by simp [hs],?_⟩
  ·rw [setCell_eq_setRow w g j cur E (0,0) _ hh]
   exact setRow_heap w g cur _ E _ hh
  ·rw [Array.toList_setIfInBounds,List.take_set,ht]
theorem qfm {w:World} {base base' E E' k k' n n':Nat} {v v':Value} {cs cs':List Value} (h:w.ownsRow base E k v n cs) (h':w.ownsRow base' E' k' v' n' cs') (hE:E≠E') {g:Nat} (hg:v.ownBlock=some g):v'.ownBlock≠some g:=by
 intro hg'
 rcases h.2 with ⟨rfl,-⟩ | ⟨a,c,cur,rfl,-,hh,-⟩
 ·cases hg
 ·rcases h'.2 with ⟨rfl,-⟩ | ⟨a',c',cur',rfl,-,hh',-⟩
  ·cases hg'
  ·simp only [Value.ownBlock,Option.some.injEq] at hg hg'
   subst hg
   subst hg'
   rw [hh] at hh'
   simp only [Option.some.injEq,Obj.cells.injEq] at hh'
   exact hE hh'.2.1
theorem qpk {w:World} {base E k g n cap j:Nat} {cs:List Value} {u:Value} (h:w.ownsRow base E k (.slice (some ⟨g,0,none⟩) n cap) n cs) (hj:cs[j]?=some u):w.cell? ⟨g,j,none⟩=some u/\w.frozen? ⟨g,j,none⟩=false:=by
 have:=World.ownsRow.cells h (g:=g) rfl j u hj
 rw [Addr.add_lit,Nat.zero_add] at this
 refine ⟨this,?_⟩
 rcases h.2 with ⟨hv,-⟩ | ⟨g',cap',cur,hv,hb,hh,-⟩
 ·cases hv
 ·cases hv
  exact qi hh j
theorem qh2 {α:Type} (f:α->List Value) (hf:∀ x,(f x).length=3) (y:α) (j:Nat) (u:Value):∀ (l:List α) (i:Nat) (x:α),l[i]?=some x->j<3->(f x).set j u=f y->(l.flatMap f).set (i * 3+j) u=(l.set i y).flatMap f
 | [],i,x,h,_,_=>by cases h
 | z :: r,0,x,h,hj,he=>by
  cases h
  rw [List.set_cons_zero,List.flatMap_cons,List.flatMap_cons,Nat.zero_mul,Nat.zero_add,List.set_append_left _ _ (by rw [hf];exact hj),he]
 | z :: r,i+1,x,h,hj,he=>by
  rw [List.set_cons_succ,List.flatMap_cons,List.flatMap_cons,List.set_append_right _ _ (by rw [hf];omega),hf,show (i+1) * 3+j - 3=i * 3+j by omega]
  rw [qh2 f hf y j u r i x h hj he]
theorem OwnG.setRule {w:World} {base g:Nat} {h:Hd} {G:Gm} {qs:List (Ru × Option Addr × Nat)} (o:OwnG w base h G qs) (hra:h.ra=some ⟨g,0,none⟩) {i j:Nat} {q:Ru × Option Addr × Nat} (hq:qs[i]?=some q) (hj:j<3) (r':Ru) (u:Value)
  (hr:r'.r=q.1.r) (hc:([.string q.1.l,.slice q.2.1 q.1.r.length q.2.2,.string q.1.p]:List Value).set j u=[.string r'.l,.slice q.2.1 r'.r.length q.2.2,.string r'.p]) :
  OwnG (w.setCell ⟨g,i * 3+j,none⟩ u) base h ⟨G.ts,G.s,G.e,G.rs.set i r'⟩ (qs.set i (r',q.2)):=by
 have hrul:=o.rul
 rw [hra] at hrul
 refine ⟨?_,?_,?_,?_⟩
 ·refine qh o.tok (fun b hb=>Below.heap_setCell _ _ _ _ (fun e=>?_))
  simp only at e
  subst e
  exact qfm hrul o.tok (by decide) (g:=b) rfl hb
 ·have h1:=ql3 (u:=u) (j:=i * 3+j) hrul
  have h2:(rulC qs).set (i * 3+j) u=rulC (qs.set i (r',q.2)):=qh2 _ (fun _=>rfl) (r',q.2) j u qs i q hq hj hc
  rw [h2] at h1
  simp only [List.length_set]
  rw [hra]
  exact h1
 ·simp only
  rw [List.map_set,o.map]
 ·intro q' hq'
  have hrow:OwnS w base (.slice q'.2.1 q'.1.r.length q'.2.2) q'.1.r:=by
   rcases List.mem_or_eq_of_mem_set hq' with h1 | h1
   ·exact o.row q' h1
   ·subst h1
    simp only
    rw [hr]
    exact o.row q (List.mem_of_getElem? hq)
  refine qh hrow (fun b hb=>Below.heap_setCell _ _ _ _ (fun e=>?_))
  simp only at e
  subst e
  exact qfm hrul hrow (by decide) (g:=b) rfl hb
theorem qj0 (G:Gm) (h:Hd) (w:World) (hG:IsG w h G) (s:ByteArray) (k:Nat) (t:Tk) (ht:G.ts[k]?=some t) (hs:t.n=s) :
  Calls Tryz.prog 54 #[gv h G,.string s] w fun e w'=>∃ m:Nat,e=.returned (.int .i64 m)/\(m=k↔¬ hasN (G.ts.take k) s)/\Below w.heap.size w w':=by
 obtain ⟨ts,st,ex,rs⟩:=G
 obtain ⟨ta,tc,ra,rc⟩:=h
 simp only at ht
 have HT:Hid (ts[k]?=some t/\t.n=s):=⟨ht,hs⟩
 have hkl:k<ts.length:=(List.getElem?_eq_some_iff.1 ht).1
 have hm1:ts.length<=tc/\tc<=9223372036854775807:=by have h1:=hG.tok.le;have h2:=hG.tok.max;simp only at h1 h2;unfold maxLen at h2;omega
 have hs1:ts.length<=100:=hG.small.nt
 have HR:Hid (Row w 3 ta ts.length tc (tokC ts)):=hG.tok
 unfold gv
 simp only
 clear hG ht hs
 obtain ⟨n,HN⟩:∃ n,Hid (ts.length=n):=⟨_,rfl⟩
 rw [HN.out] at HR hm1 hs1 hkl ⊢
 generalize rs.length=rn
 go_enter Tryz.func54,Tryz.ntmps54
 go_upto_region 1 with fail
 have c0:(w.alloc (.cells #[.slice ta n tc,.string st,.int .i64 ex,.slice ra rn rc] 25)).cell? ⟨w.heap.size,0,none⟩=some (.slice ta n tc):=by rw [World.cell?_alloc_mark];rfl
 have HB:Hid (Below w.heap.size w (w.alloc (.cells #[.slice ta n tc,.string st,.int .i64 ex,.slice ra rn rc] 25))/\Row (w.alloc (.cells #[.slice ta n tc,.string st,.int .i64 ex,.slice ra rn rc] 25)) 3 ta n tc (tokC ts)):=⟨qb _ _,HR.out.below (qb _ _)⟩
 generalize w.alloc (.cells #[.slice ta n tc,.string st,.int .i64 ex,.slice ra rn rc] 25)=wq at c0 HB ⊢
 generalize w.heap.size=gb at c0 ⊢
 clear HR
 go_wp2
 go_loop [5] (fun v=>∃ i:Nat,i<=k/\v=.int .i64 i/\Hid (∀ j u,j<i->ts[j]?=some u->u.n≠s)) (fun v=>n - (intOf v).toNat)
 case atStart=>exact ⟨0,Nat.zero_le _,rfl,(fun j u h=>absurd h (Nat.not_lt_zero _):∀ j u,j<0->ts[j]?=some u->u.n≠s)⟩
 case round =>
  obtain ⟨i,hi,rfl,J⟩:=hrel
  have hlt:i<n:=by omega
  obtain ⟨u,hu⟩:∃ u,ts[i]?=some u:=⟨ts[i]'(by rw [HN.out];exact hlt),List.getElem?_eq_getElem _⟩
  obtain ⟨b,o,rfl,p0,-,-⟩:=ja HB.out.2 hu
  have HU:Hid (ts[i]?=some u):=hu
  clear hu
  by_cases he:u.n=s
  ·have hb:=xh he
   have HF:Hid (i=k↔¬ hasN (ts.take k) s):=by
    constructor
    ·rintro rfl ⟨v,hv,hv2⟩
     obtain ⟨j,hj⟩:=List.getElem?_of_mem hv
     rw [List.getElem?_take] at hj
     split at hj
     ·exact J.out j v (by assumption) hj hv2
     ·cases hj
    ·intro hno
     rcases Nat.lt_or_ge i k with h | h
     ·exact absurd ⟨u,List.mem_of_getElem? (i:=i) (by rw [List.getElem?_take,if_pos h];exact HU.out),he⟩ hno
     ·omega
   generalize u.n=un at p0 hb
   clear he
   go_wp2
   go_ret
   exact ⟨i,rfl,HF.out,HB.out.1⟩
  ·have hb:=k9 he
   have hik:i<k:=by
    rcases Nat.lt_or_ge i k with h | h
    ·exact h
    ·have:i=k:=by omega
     subst this
     have:=HU.out
     rw [HT.out.1] at this
     cases this
     exact absurd HT.out.2 he
   have HF:Hid (∀ j u,j<i+1->ts[j]?=some u->u.n≠s):=fun j v hj hv=>by
    rcases Nat.lt_or_ge j i with h | h
    ·exact J.out j v h hv
    ·have:j=i:=by omega
     subst this
     rw [HU.out] at hv
     cases hv
     exact he
   generalize u.n=un at p0 hb
   clear he
   go_wp2
   go_round
   case rel=>exact ⟨i+1,by omega,by simp,HF⟩
   case measure=>simp [intOf];omega
def TopL (l:List Int) (m:Nat):Prop:=m<9/\(∀ j,m<j->j<9->(l[j]?).getD 0=0)/\(m=0\/(l[m]?).getD 0≠0)
theorem qn2:TopL jl 0:=by
 refine ⟨by omega,fun j h1 h2=>?_,.inl rfl⟩
 match j,h2 with
 | 0,_=>rfl
 | 1,_=>rfl
 | 2,_=>rfl
 | 3,_=>rfl
 | 4,_=>rfl
 | 5,_=>rfl
 | 6,_=>rfl
 | 7,_=>rfl
 | 8,_=>rfl
theorem qdc (l:List Int) (m j:Nat) (a:Int) (h:m<l.length):((l.set m a)[j]?).getD 0=if j=m then a else (l[j]?).getD 0:=by
 rw [List.getElem?_set]
 by_cases hj:m=j
 ·subst hj;simp [h]
 ·rw [if_neg hj,if_neg (by omega)]
theorem qpl {l:List Int} {m q:Nat} {a:Int} (h:TopL l m) (hl:l.length=9) (hq:q<9) (ha:(q=0/\a=0)\/(1<=q/\a≠0)):TopL (l.set q a) (max m q):=by
 obtain ⟨h1,h2,h3⟩:=h
 refine ⟨by omega,fun j hj1 hj2=>?_,?_⟩
 ·rw [qdc l q j a (by omega),if_neg (by omega)]
  exact h2 j (by omega) hj2
 ·by_cases hmq:m<=q
  ·rw [Nat.max_eq_right hmq]
   rcases ha with ⟨h0,-⟩ | ⟨hq1,hane⟩
   ·exact .inl h0
   ·right;rw [qdc l q q a (by omega),if_pos rfl];exact hane
  ·rw [Nat.max_eq_left (by omega)]
   rcases h3 with h3 | h3
   ·exact .inl h3
   ·right;rw [qdc l q m a (by omega),if_neg (by omega)];exact h3
theorem qn3 {l:List Int} {m:Nat} (h:TopL l m):qaf l↔∀ i,1<=i->i<=m->(l[i]?).getD 0≠0:=by
 obtain ⟨h1,h2,h3⟩:=h
 constructor
 ·intro hg i hi1 hi2
  rcases h3 with h3 | h3
  ·omega
  ·have:∀ d i,i+d=m->1<=i->(l[i]?).getD 0≠0:=by
    intro d
    induction d with
    | zero=>intro i hi _;rw [show i=m by omega];exact h3
    | succ d ih =>
     intro i hi h0
     have:=hg (i+1) (by omega) (by omega) (ih (i+1) (by omega) (by omega))
     rwa [Nat.add_sub_cancel] at this
   exact this (m - i) i (by omega) hi1
 ·intro ha k hk1 hk2 hk3
  rcases Nat.lt_or_ge m k with h | h
  ·exact absurd (h2 k h hk2) hk3
  ·exact ha (k - 1) (by omega) (by omega)
structure RM (ts:List Tk) (w wr:World) (k m:Nat) (l:List Int):Prop where
 lev:levF (ts.take k)=some l
 top:TopL l m
 names:kl ts k
 zero:(l[0]?).getD 0=0
 arr:wr.heap[w.heap.size]?=some (.cells (ar9 l) 87 (0,0))
 bel:Below w.heap.size w wr
theorem RM.step {ts:List Tk} {w wr wr':World} {k m:Nat} {l:List Int} (h:RM ts w wr k m l) (hb:Below wr.heap.size wr wr'):RM ts w wr' k m l :=
 ⟨h.lev,h.top,h.names,h.zero,qf hb h.arr,qd h.bel hb⟩
theorem RM.cell {ts:List Tk} {w wr:World} {k m:Nat} {l:List Int} (h:RM ts w wr k m l) {q:Nat} (hq:q<9):wr.cell? ⟨w.heap.size,q,none⟩=some (.int .i64 ((l[q]?).getD 0)):=by
 rw [qe h.arr];exact qf7 (yj h.lev) hq
theorem RM.put {ts:List Tk} {w wr:World} {k k' m q:Nat} {l:List Int} {a:Int} (h:RM ts w wr k m l) (hl:levF (ts.take k')=some (l.set q a)) (hn:kl ts k') (hq:q<9) (ha:(q=0/\a=0)\/(1<=q/\a≠0)):RM ts w (wr.setCell ⟨w.heap.size,q,none⟩ (.int .i64 a)) k' (max m q) (l.set q a):=by
 refine ⟨hl,qpl h.top (yj h.lev) hq ha,hn,?_,?_,h.bel.setCell (p:=⟨w.heap.size,q,none⟩) (Nat.le_refl _) _⟩
 ·rw [qdc l q 0 a (by rw [yj h.lev];exact hq)]
  split
  ·rcases ha with h1 | h1
   ·exact h1.2
   ·omega
  ·exact h.zero
 rw [setCell_eq_setRow wr w.heap.size q _ 87 (0,0) _ h.arr,ql2]
 exact setRow_heap _ _ _ _ 87 _ h.arr
theorem qz {w:World} {a p:Addr} {v u:Value} (h:w.cell? a=some v) (hne:a.block≠p.block):(w.setCell p u).cell? a=some v:=by
 rw [<-h]
 unfold World.cell?
 rw [Below.heap_setCell _ _ _ _ hne]
theorem qn4 (n:ByteArray) (l a:Int):(¬ LevP ⟨n,l,a⟩/\(l<0\/(8<l)\/(l=0/\a≠0)\/(1<=l/\l<=8/\a<1)\/(1<=l/\l<=8/\3<a)))\/(LevP ⟨n,l,a⟩/\((l=0/\a=0)\/(1<=l/\l<=8/\1<=a/\a<=3))):=by
 unfold LevP
 simp only
 omega
theorem qm3:qju 28:=by
 intro G h w r hG hp
 obtain ⟨ts,st,ex,rs⟩:=G
 obtain ⟨ta,tc,ra,rc⟩:=h
 have HP:Hid (r=true↔MayP ⟨ts,st,ex,rs⟩):=hp
 have hm1:ts.length<=tc/\tc<=9223372036854775807:=by have h1:=hG.tok.le;have h2:=hG.tok.max;simp only at h1 h2;unfold maxLen at h2;omega
 have hm2:=kj hG.rul
 simp only at hm2
 have hs1:ts.length<=100:=hG.small.nt
 have hs2:rs.length<=200:=hG.small.nr
 have HG:Hid (IsG w ⟨ta,tc,ra,rc⟩ ⟨ts,st,ex,rs⟩):=hG
 have HNM:Hid (∀ W:World,Calls Tryz.prog 53 #[.string st] W fun e w'=>e=.returned (.bool (nameOk (by8 st)))/\w'=W):=fun W=>yi st W (by have:=hG.small.st;simp only at this;omega)
 unfold gv
 simp only
 clear hG hp
 obtain ⟨tn,HTN⟩:∃ n,Hid (ts.length=n):=⟨_,rfl⟩
 obtain ⟨rn,HRN⟩:∃ n,Hid (rs.length=n):=⟨_,rfl⟩
 rw [HTN.out] at hm1 hs1 ⊢
 rw [HRN.out] at hm2 hs2 ⊢
 obtain ⟨x,hx⟩:=zr (¬ (tn<=40/\rn<=100/\0<=ex/\ex<=9999/\kn st))
 have HX:Hid (x=true↔¬ (tn<=40/\rn<=100/\0<=ex/\ex<=9999/\kn st)):=hx
 clear hx
 go_enter Tryz.func28,Tryz.ntmps28
 go_upto_region 1 with fail
 have c0:(w.alloc (.cells #[.slice ta tn tc,.string st,.int .i64 ex,.slice ra rn rc] 25)).cell? ⟨w.heap.size,0,none⟩=some (.slice ta tn tc):=by rw [World.cell?_alloc_mark];rfl
 have c1:(w.alloc (.cells #[.slice ta tn tc,.string st,.int .i64 ex,.slice ra rn rc] 25)).cell? ⟨w.heap.size,1,none⟩=some (.string st):=by rw [World.cell?_alloc_mark];rfl
 have c2:(w.alloc (.cells #[.slice ta tn tc,.string st,.int .i64 ex,.slice ra rn rc] 25)).cell? ⟨w.heap.size,2,none⟩=some (.int .i64 ex):=by rw [World.cell?_alloc_mark];rfl
 have c3:(w.alloc (.cells #[.slice ta tn tc,.string st,.int .i64 ex,.slice ra rn rc] 25)).cell? ⟨w.heap.size,3,none⟩=some (.slice ra rn rc):=by rw [World.cell?_alloc_mark];rfl
 have HB:Hid (Below w.heap.size w (w.alloc (.cells #[.slice ta tn tc,.string st,.int .i64 ex,.slice ra rn rc] 25))/\IsG (w.alloc (.cells #[.slice ta tn tc,.string st,.int .i64 ex,.slice ra rn rc] 25)) ⟨ta,tc,ra,rc⟩ ⟨ts,st,ex,rs⟩):=⟨qb _ _,HG.out.below (qb _ _)⟩
 generalize w.alloc (.cells #[.slice ta tn tc,.string st,.int .i64 ex,.slice ra rn rc] 25)=w0 at c0 c1 c2 c3 HB ⊢
 generalize w.heap.size=gb at c0 c1 c2 c3 ⊢
 clear HG
 go_cut [41] (fun s wd=>s=.bool x/\wd=w0)
 case first =>
  by_cases h40:40<tn
  ·have HF:Hid (x=true):=ky HX.out (by omega)
   have h40':(40:Int)<(tn:Int):=by omega
   go_wp2_with fail
   go_meet
   exact ⟨by rw [HF.out],rfl⟩
  have h40':¬ (40:Int)<(tn:Int):=by omega
  by_cases h100:100<rn
  ·have HF:Hid (x=true):=ky HX.out (by omega)
   have h100':(100:Int)<(rn:Int):=by omega
   go_wp2_with fail
   go_meet
   exact ⟨by rw [HF.out],rfl⟩
  have h100':¬ (100:Int)<(rn:Int):=by omega
  by_cases he0:ex<0
  ·have HF:Hid (x=true):=ky HX.out (by omega)
   go_wp2_with fail
   go_meet
   exact ⟨by rw [HF.out],rfl⟩
  by_cases he1:9999<ex
  ·have HF:Hid (x=true):=ky HX.out (by omega)
   go_wp2_with fail
   go_meet
   exact ⟨by rw [HF.out],rfl⟩
  have hst:(kn st/\(st.toList == [])=true)\/(kn st/\(st.toList == [])=false/\nameOk (by8 st)=true)\/(¬ kn st/\(st.toList == [])=false/\nameOk (by8 st)=false):=by
   unfold kn zp
   rw [<-zo]
   cases (st.toList == []) <;> cases nameOk (by8 st) <;> simp
  rcases hst with ⟨hst,hs3⟩ | ⟨hst,hs3,hs4⟩ | ⟨hst,hs3,hs4⟩
  ·have HF:Hid (x=false):=zb HX.out (fun h=>h ⟨by omega,by omega,by omega,by omega,hst⟩)
   clear hst
   go_wp2_with fail
   go_meet
   exact ⟨by rw [HF.out],rfl⟩
  ·have HF:Hid (x=false):=zb HX.out (fun h=>h ⟨by omega,by omega,by omega,by omega,hst⟩)
   rw [hs4] at HNM
   clear hst
   go_wp2_with (go_at_call 53;refine (HNM.out _).mono ?_;rintro e w1 ⟨rfl,rfl⟩)
   go_meet
   exact ⟨by rw [HF.out],rfl⟩
  ·have HF:Hid (x=true):=ky HX.out (fun h=>hst h.2.2.2.2)
   rw [hs4] at HNM
   clear hst
   go_wp2_with (go_at_call 53;refine (HNM.out _).mono ?_;rintro e w1 ⟨rfl,rfl⟩)
   go_meet
   exact ⟨by rw [HF.out],rfl⟩
 case rest =>
  obtain ⟨rfl,hwc⟩:=hcut
  subst wc
  cases x
  rotate_left
  ·have HF:Hid (r=false):=zb HP.out (fun h=>HX.out.1 rfl ⟨by rw [<-HTN.out];exact h.nt,by rw [<-HRN.out];exact h.nr,h.e0,h.e1,h.st⟩)
   go_wp2_with fail
   go_ret
   exact ⟨by rw [HF.out];rfl,HB.out.1⟩
  ·have HP2:Hid (r=true↔TokP ts/\∀ r∈rs,xq r):=by
    have hc:tn<=40/\rn<=100/\0<=ex/\ex<=9999/\kn st:=by
     rcases Classical.em (tn<=40/\rn<=100/\0<=ex/\ex<=9999/\kn st) with h | h
     ·exact h
     ·have:=HX.out.2 h;cases this
    exact HP.out.trans ⟨fun h=>⟨h.tk,h.rl⟩,fun h=>⟨by simp only;rw [HTN.out];exact hc.1,by simp only;rw [HRN.out];exact hc.2.1,hc.2.2.1,hc.2.2.2.1,hc.2.2.2.2,h.1,h.2⟩⟩
   have C0:Hid (∀ W:World,Below w0.heap.size w0 W->W.cell? ⟨gb,0,none⟩=some (.slice ta tn tc)):=fun W hW=>qj hW c0
   have C1:Hid (∀ W:World,Below w0.heap.size w0 W->W.cell? ⟨gb,1,none⟩=some (.string st)):=fun W hW=>qj hW c1
   have C2:Hid (∀ W:World,Below w0.heap.size w0 W->W.cell? ⟨gb,2,none⟩=some (.int .i64 ex)):=fun W hW=>qj hW c2
   have C3:Hid (∀ W:World,Below w0.heap.size w0 W->W.cell? ⟨gb,3,none⟩=some (.slice ra rn rc)):=fun W hW=>qj hW c3
   clear HP HX HNM c0 c1 c2 c3
   go_upto_block 0 with fail
   go_cut [4] (fun s4 wd=>∃ m:Nat,s4=.int .i64 m/\Hid (∃ l,RM ts w0 wd tn m l))
   case first =>
    go_wp2_with fail
    go_loopg [4,5] tn (fun kx s4 s5 wr=>∃ k m:Nat,s4=.int .i64 m/\s5=.int .i64 k/\k<=tn/\m<=8/\tn - k<=kx/\Hid (∃ l,RM ts w0 wr k m l))
    case atStart=>exact ⟨0,0,rfl,rfl,Nat.zero_le _,Nat.zero_le _,by omega,(⟨jl,rfl,qn2,kl.zero ts,rfl,heap_alloc_new _ _,qb _ _⟩:∃ l,RM ts w0 _ 0 0 l)⟩
    case round =>
     obtain ⟨k,m,rfl,rfl,hk,hm8,hg,J⟩:=hrel
     obtain ⟨l,JJ⟩:=J.out
     have JM:Hid (RM ts w0 wr k m l):=JJ
     clear J JJ
     have c0:=C0.out wr JM.out.bel
     by_cases hlt:k<tn
     ·obtain ⟨t,ht⟩:∃ t,ts[k]?=some t:=⟨ts[k]'(by rw [HTN.out];exact hlt),List.getElem?_eq_getElem _⟩
      have hrow:=HB.out.2.tok.below JM.out.bel
      simp only at hrow
      obtain ⟨b,o,hta,p0,p1,p2⟩:=ja hrow ht
      subst hta
      have HT:Hid (ts[k]?=some t):=ht
      have hsz:=HB.out.2.small.tk t (List.mem_of_getElem? ht)
      obtain ⟨nm,tl,tk⟩:=t
      simp only at p0 p1 p2 hsz
      clear ht hrow
      go_upto_region 9 with fail
      have HQ:Hid (RM ts w0 (wr.alloc (.cells #[.string nm,.int .i64 tl,.int .i64 tk] 58)) k m l):=JM.out.step (qb _ _)
      have d0:(wr.alloc (.cells #[.string nm,.int .i64 tl,.int .i64 tk] 58)).cell? ⟨wr.heap.size,0,none⟩=some (.string nm):=by rw [World.cell?_alloc_mark];rfl
      have d1:(wr.alloc (.cells #[.string nm,.int .i64 tl,.int .i64 tk] 58)).cell? ⟨wr.heap.size,1,none⟩=some (.int .i64 tl):=by rw [World.cell?_alloc_mark];rfl
      have d2:(wr.alloc (.cells #[.string nm,.int .i64 tl,.int .i64 tk] 58)).cell? ⟨wr.heap.size,2,none⟩=some (.int .i64 tk):=by rw [World.cell?_alloc_mark];rfl
      generalize wr.alloc (.cells #[.string nm,.int .i64 tl,.int .i64 tk] 58)=wq at HQ d0 d1 d2 ⊢
      have HTB:Hid (w0.heap.size<wr.heap.size):=(Array.getElem?_eq_some_iff.1 JM.out.arr).1
      generalize wr.heap.size=tb at d0 d1 d2 HTB ⊢
      clear p0 p1 p2 JM c0
      have c0:=C0.out wq HQ.out.bel
      have c1:=C1.out wq HQ.out.bel
      have c2:=C2.out wq HQ.out.bel
      have c3:=C3.out wq HQ.out.bel
      obtain ⟨y,hy⟩:=zr (¬ (zp nm/\¬ hasN (ts.take k) nm/\LevP ⟨nm,tl,tk⟩))
      have HY:Hid (y=true↔¬ (zp nm/\¬ hasN (ts.take k) nm/\LevP ⟨nm,tl,tk⟩)):=hy
      clear hy
      have H1:Hid (∀ W:World,Calls Tryz.prog 53 #[.string nm] W fun e w'=>e=.returned (.bool (nameOk (by8 nm)))/\w'=W):=fun W=>yi nm W (by omega)
      have H2:Hid (Calls Tryz.prog 54 #[.agg #[.slice (some ⟨b,o,none⟩) tn tc,.string st,.int .i64 ex,.slice ra rn rc],.string nm] wq fun e w'=>∃ m:Nat,e=.returned (.int .i64 m)/\(m=k↔¬ hasN (ts.take k) nm)/\Below wq.heap.size wq w'):=by
       have:=qj0 ⟨ts,st,ex,rs⟩ ⟨some ⟨b,o,none⟩,tc,ra,rc⟩ wq (HB.out.2.below HQ.out.bel) nm k ⟨nm,tl,tk⟩ HT.out rfl
       unfold gv at this
       simp only at this
       rwa [HTN.out,HRN.out] at this
      go_cut [100] from 42 to 128 (fun s wd=>s=.bool y/\Hid (Below wq.heap.size wq wd))
      case first =>
       cases hnm:nameOk (by8 nm)
       ·have HF:Hid (y=true):=ky HY.out (fun h=>by have:=h.1;unfold zp at this;rw [hnm] at this;cases this)
        rw [hnm] at H1
        clear H2 hnm
        go_wp2_with (go_at_call 53;refine (H1.out _).mono ?_;rintro e w1 ⟨rfl,rfl⟩)
        go_meet
        exact ⟨by rw [HF.out],Below.refl _ _⟩
       ·rw [hnm] at H1
        go_wp2_with (go_at_call 53;refine (H1.out _).mono ?_;rintro e w1 ⟨rfl,rfl⟩)
        refine H2.out.mono ?_
        rintro e w2 ⟨mk,rfl,hmk,hB⟩
        have HBB:Hid (Below w1.heap.size w1 w2):=hB
        have HMK:Hid (mk=k↔¬ hasN (ts.take k) nm):=hmk
        have d1:=qj hB d1
        have d2:=qj hB d2
        clear hB hmk H1 H2 c0 c1 c2 c3 d0
        by_cases hmkk:mk=k
        ·have hk1:((mk:Int) != (k:Int))=false:=by simp [hmkk]
         rcases qn4 nm tl tk with ⟨hno,hl⟩ | ⟨hyes,hl⟩
         ·have HF:Hid (y=true):=ky HY.out (fun h=>hno h.2.2)
          clear hno hmkk
          rcases hl with hl | hl | ⟨hl,ha⟩ | ⟨hl,hl2,ha⟩ | ⟨hl,hl2,ha⟩
          ·go_wp2_with fail
           go_meet
           exact ⟨by rw [HF.out],HBB.out⟩
          ·go_wp2_with fail
           go_meet
           exact ⟨by rw [HF.out],HBB.out⟩
          ·have hl1:(tl == 0)=true:=by simpa using hl
           have ha1:(tk != 0)=true:=by simpa using ha
           go_wp2_with fail
           go_meet
           exact ⟨by rw [HF.out],HBB.out⟩
          ·have hl1:(tl == 0)=false:=by simp;omega
           go_wp2_with fail
           go_meet
           exact ⟨by rw [HF.out],HBB.out⟩
          ·have hl1:(tl == 0)=false:=by simp;omega
           go_wp2_with fail
           go_meet
           exact ⟨by rw [HF.out],HBB.out⟩
         ·have HF:Hid (y=false):=zb HY.out (fun h=>h ⟨hnm,HMK.out.1 hmkk,hyes⟩)
          clear hyes hmkk
          rcases hl with ⟨hl,ha⟩ | ⟨hl,hl2,ha,ha2⟩
          ·have hl1:(tl == 0)=true:=by simpa using hl
           have ha1:(tk != 0)=false:=by simpa using ha
           go_wp2_with fail
           go_meet
           exact ⟨by rw [HF.out],HBB.out⟩
          ·have hl1:(tl == 0)=false:=by simp;omega
           go_wp2_with fail
           go_meet
           exact ⟨by rw [HF.out];simp;omega,HBB.out⟩
        ·have hk1:((mk:Int) != (k:Int))=true:=by simp;omega
         have HF:Hid (y=true):=ky HY.out (fun h=>hmkk (HMK.out.2 h.2.1))
         clear hmkk
         go_wp2_with fail
         go_meet
         exact ⟨by rw [HF.out],HBB.out⟩
      case rest =>
       obtain ⟨rfl,HBB⟩:=hcut
       have HQ2:Hid (RM ts w0 wc k m l):=HQ.out.step HBB.out
       have d1:=qj HBB.out d1
       have d2:=qj HBB.out d2
       clear H1 H2 c0 c1 c2 c3 d0 HQ HBB
       cases y
       rotate_left
       ·have HF:Hid (r=false):=zb HP2.out (fun h=>HY.out.1 rfl ⟨(h.1.1 k _ HT.out).1,fun hh=>qnv HT.out hh h.1,by
         obtain ⟨l',hl',-⟩:=h.1.2
         rcases Classical.em (LevP ⟨nm,tl,tk⟩) with h1 | h1
         ·exact h1
         ·have:=qc8 (ts:=ts) (k:=k+1) (by rw [zn HT.out,qcd,HQ2.out.lev];unfold levS;simp [h1])
          rw [this] at hl';cases hl'⟩)
        have HBF:Hid (Below w.heap.size w wc):=qd HB.out.1 HQ2.out.bel
        clear HY
        go_wp2_with fail
        go_ret
        exact ⟨by rw [HF.out];rfl,HBF.out⟩
       ·have HL:Hid (zp nm/\¬ hasN (ts.take k) nm/\LevP ⟨nm,tl,tk⟩):=by
         rcases Classical.em (zp nm/\¬ hasN (ts.take k) nm/\LevP ⟨nm,tl,tk⟩) with h | h
         ·exact h
         ·have:=HY.out.2 h;cases this
        have HNK:Hid (kl ts (k+1)):=HQ2.out.names.succ HT.out HL.out.1 HL.out.2.1
        clear HY
        have hlo:0<=tl/\tl<9:=by
         have:=HL.out.2.2
         unfold LevP at this
         simp only at this
         omega
        have hq9:tl.toNat<9:=by omega
        have HKD:Hid ((tl.toNat=0/\tk=0)\/(1<=tl.toNat/\tk≠0)):=by
         have:=HL.out.2.2
         unfold LevP at this
         simp only at this
         show _\/_
         omega
        have HLS:Hid (levF (ts.take (k+1))=if (l[tl.toNat]?).getD 0=0\/(l[tl.toNat]?).getD 0=tk then some (l.set tl.toNat tk) else none):=by
         show _=_
         rw [zn HT.out,qcd,HQ2.out.lev]
         unfold levS at9
         simp [HL.out.2.2]
        have HZ:Hid (tl<=0->(l[tl.toNat]?).getD 0=0\/(l[tl.toNat]?).getD 0=tk):=fun h=>by
         have h0:tl.toNat=0:=by omega
         have:=HQ2.out.zero
         rw [h0]
         exact .inl this
        have hx:=HQ2.out.cell hq9
        obtain ⟨z,hz⟩:=zr (¬ ((l[tl.toNat]?).getD 0=0\/(l[tl.toNat]?).getD 0=tk))
        have HZB:Hid (z=true↔¬ ((l[tl.toNat]?).getD 0=0\/(l[tl.toNat]?).getD 0=tk)):=hz
        generalize (l[tl.toNat]?).getD 0=x at hx HLS HZ HZB
        clear hz hq9
        have g1:=kh d1
        have g2:=kh d2
        have gx:=kh hx
        obtain ⟨wy,hwy⟩:∃ wy,wy=wc:=⟨_,rfl⟩
        subst wc
        go_upto_region 11 with fail
        go_cut [119] from 42 to 128 (fun s wd=>s=.bool z/\Hid (Below wy.heap.size wy wd))
        case first =>
         have HR0:Hid (∀ n os,Below wy.heap.size wy (onto wy n os)):=fun n os=>ke wy n os
         by_cases hq0:tl<=0
         ·have HF:Hid (z=false):=zb HZB.out (fun h=>h (HZ.out hq0))
          have hq1:¬ 0<tl:=by omega
          refine zv (by kernel_rfl) ?_
          repeat (go_big_quiet_step (fail))
          refine wpQuiet_nil ?_
          intro _ hwq
          obtain ⟨⟨nq,osq⟩,hwe⟩:=hwq
          subst hwe
          go_wp2_with fail
          go_meet
          exact ⟨by rw [HF.out],HR0.out _ _⟩
         ·have hq1:0<tl:=by omega
          by_cases hx0:x=0
          ·have HF:Hid (z=false):=zb HZB.out (fun h=>h (.inl hx0))
           have hx1:(x != 0)=false:=by simpa using hx0
           clear hx0
           refine zv (by kernel_rfl) ?_
           repeat (go_big_quiet_step (fail))
           refine wpQuiet_nil ?_
           intro _ hwq
           obtain ⟨⟨nq,osq⟩,hwe⟩:=hwq
           subst hwe
           go_wp2_with fail
           go_meet
           exact ⟨by rw [HF.out],HR0.out _ _⟩
          ·have hx1:(x != 0)=true:=by simpa using hx0
           have HF:Hid (z=(x != tk)):=by
            show _=_
            rw [Bool.eq_iff_iff,HZB.out]
            simp [hx0]
           clear hx0
           refine zv (by kernel_rfl) ?_
           repeat (go_big_quiet_step (fail))
           refine wpQuiet_nil ?_
           intro _ hwq
           obtain ⟨⟨nq,osq⟩,hwe⟩:=hwq
           subst hwe
           go_wp2_with fail
           go_meet
           exact ⟨by rw [HF.out],HR0.out _ _⟩
        case rest =>
         obtain ⟨rfl,HBC⟩:=hcut
         have HQ3:Hid (RM ts w0 wc k m l):=HQ2.out.step HBC.out
         have d1:=qj HBC.out d1
         have d2:=qj HBC.out d2
         have hx:=qj HBC.out hx
         clear g1 g2 gx HBC HQ2
         cases z
         rotate_left
         ·have HF:Hid (r=false):=zb HP2.out (fun h=>by
           obtain ⟨l',hl',-⟩:=h.1.2
           have:=qc8 (ts:=ts) (k:=k+1) (by rw [HLS.out,if_neg (HZB.out.1 rfl)])
           rw [this] at hl';cases hl')
          have HBF:Hid (Below w.heap.size w wc):=qd HB.out.1 HQ3.out.bel
          clear HLS HZB HZ HL HKD
          go_wp2_with fail
          go_ret
          exact ⟨by rw [HF.out];rfl,HBF.out⟩
         ·have HL2:Hid (levF (ts.take (k+1))=some (l.set tl.toNat tk)):=by
           have hc:x=0\/x=tk:=by
            rcases Classical.em (x=0\/x=tk) with h | h
            ·exact h
            ·have:=HZB.out.2 h;cases this
           have:=HLS.out
           rwa [if_pos hc] at this
          have fx:wc.frozen? ⟨w0.heap.size,tl.toNat,none⟩=false:=qi HQ3.out.arr _
          have HM:Hid (RM ts w0 (wc.setCell ⟨w0.heap.size,tl.toNat,none⟩ (.int .i64 tk)) (k+1) (max m tl.toNat) (l.set tl.toNat tk)):=HQ3.out.put HL2.out HNK.out (by omega) HKD.out
          have d1:=qz d1 (p:=⟨w0.heap.size,tl.toNat,none⟩) (u:=.int .i64 tk) (by have:=HTB.out;simp only;omega)
          clear HLS HZB HZ HL HKD HL2
          have hmq:max m tl.toNat<=8:=by omega
          go_wp2_with fail
          go_roundg (tn - (k+1))
          case measure=>omega
          case rel=>exact ⟨k+1,max m tl.toNat,by congr 1;omega,by simp,by omega,hmq,Nat.le_refl _,(⟨_,HM.out⟩:∃ l,RM ts w0 _ (k+1) _ l)⟩
     ·obtain rfl:k=tn:=by omega
      go_wp2
      go_meet
      exact ⟨m,rfl,⟨l,JM.out⟩⟩
   case rest =>
    obtain ⟨m,rfl,HC⟩:=hcut
    obtain ⟨l,hRM⟩:=HC.out
    have HM:Hid (RM ts w0 wc tn m l):=hRM
    have hm8:m<=8:=by have:=hRM.top.1;omega
    have HLV:Hid (levF ts=some l):=by have:=hRM.lev;rwa [<-HTN.out,List.take_length] at this
    have HNM:Hid (∀ (i:Nat) (t:Tk),ts[i]?=some t->zp t.n/\∀ (j:Nat) (u:Tk),j<i->ts[j]?=some u->u.n≠t.n):=kl.all (by rw [HTN.out];exact hRM.names)
    have HTP:Hid (TokP ts↔∀ i,1<=i->i<=m->(l[i]?).getD 0≠0):=by
     rw [<-qn3 hRM.top]
     exact ⟨fun h=>by obtain ⟨l',h1,h2⟩:=h.2;rw [HLV.out] at h1;cases h1;exact h2,fun h=>⟨HNM.out,l,HLV.out,h⟩⟩
    have HB2:Hid (Below w.heap.size w wc):=qd HB.out.1 hRM.bel
    clear HC hRM HLV HNM
    obtain ⟨wa,hwa⟩:∃ wa,wa=wc:=⟨_,rfl⟩
    subst wc
    go_upto_block 2 with fail
    go_cut [7] (fun s7 wd=>wd=wa/\Hid (TokP ts))
    case first =>
     go_wp2_with fail
     go_loop [7] (fun v=>∃ i:Nat,1<=i/\i<=m+1/\v=.int .i64 i/\Hid (∀ j,1<=j->j<i->(l[j]?).getD 0≠0)) (fun v=>m+1 - (intOf v).toNat)
     case atStart=>exact ⟨1,Nat.le_refl _,by omega,rfl,(fun j h1 h2=>by omega:∀ j,1<=j->j<1->(l[j]?).getD 0≠0)⟩
     case round =>
      obtain ⟨i,hi1,hi2,rfl,J⟩:=hrel
      by_cases hlt:i<=m
      ·have hx:=HM.out.cell (show i<9 by omega)
       have JN:Hid ((l[i]?).getD 0≠0->∀ j,1<=j->j<i+1->(l[j]?).getD 0≠0):=fun h j h1 h2=>by
        rcases Nat.lt_or_ge j i with h3 | h3
        ·exact J.out j h1 h3
        ·rw [show j=i by omega];exact h
       have JY:Hid ((l[i]?).getD 0=0->¬ TokP ts):=fun h ht=>HTP.out.1 ht i hi1 hlt h
       generalize (l[i]?).getD 0=x at hx JN JY
       clear J
       by_cases hx0:x=0
       ·have hx1:(x == 0)=true:=by simpa using hx0
        have HF:Hid (r=false):=zb HP2.out (fun h=>JY.out hx0 h.1)
        clear JN JY hx0
        go_wp2_with fail
        go_ret
        exact ⟨by rw [HF.out];rfl,HB2.out⟩
       ·have hx1:(x == 0)=false:=by simpa using hx0
        have JN2:Hid (∀ j,1<=j->j<i+1->(l[j]?).getD 0≠0):=JN.out hx0
        clear JN JY hx0
        go_wp2_with fail
        go_round
        case rel=>exact ⟨i+1,by omega,by omega,by simp,JN2⟩
        case measure=>simp [intOf];omega
      ·have HT:Hid (TokP ts):=HTP.out.2 (fun j h1 h2=>J.out j h1 (by omega))
       clear J
       go_wp2_with fail
       go_meet
       exact ⟨rfl,HT⟩
    case rest =>
     obtain ⟨hwc,HT⟩:=hcut
     subst wc
     have HP3:Hid (r=true↔∀ r∈rs,xq r):=HP2.out.trans ⟨fun h=>h.2,fun h=>⟨HT.out,h⟩⟩
     have HR:Hid (ks wa ra rn rc rs):=by have:=HB.out.2.rul.below HM.out.bel;simp only at this;rwa [HRN.out] at this
     have C3':Hid (∀ W:World,Below wa.heap.size wa W->W.cell? ⟨gb,3,none⟩=some (.slice ra rn rc)):=fun W hW=>qj hW (C3.out wa HM.out.bel)
     have HS:Hid (∀ r∈rs,r.l.size<=100/\r.p.size<=100/\r.r.length<=100/\∀ x∈r.r,x.size<=100):=HB.out.2.small.rl
     clear HP2 HT HTP HM C0 C1 C2 C3 HB hm8
     go_wp2_with fail
     go_loopg [8] rn (fun kx s8 wr=>∃ k:Nat,s8=.int .i64 k/\k<=rn/\rn - k<=kx/\Hid (Below wa.heap.size wa wr/\∀ i x,i<k->rs[i]?=some x->xq x))
     case atStart=>exact ⟨0,rfl,Nat.zero_le _,by omega,(⟨Below.refl _ _,fun i x h=>absurd h (Nat.not_lt_zero _)⟩:Below wa.heap.size wa _/\∀ i x,i<0->rs[i]?=some x->xq x)⟩
     case round =>
      obtain ⟨k,rfl,hk,hg,J⟩:=hrel
      have c3:=C3'.out wr J.out.1
      by_cases hlt:k<rn
      ·obtain ⟨x,hx⟩:∃ x,rs[k]?=some x:=⟨rs[k]'(by rw [HRN.out];exact hlt),List.getElem?_eq_getElem _⟩
       obtain ⟨b,o,xa,xc,hra,p0,p1,p2,hrow⟩:=(HR.out.below J.out.1).at hx
       subst hra
       have HT:Hid (rs[k]?=some x):=hx
       have hsz:=HS.out x (List.mem_of_getElem? hx)
       obtain ⟨nl,nr,np⟩:=x
       simp only at p0 p1 p2 hrow hsz
       obtain ⟨n,HN⟩:∃ n,Hid (nr.length=n):=⟨_,rfl⟩
       rw [HN.out] at p1 hrow hsz
       have hle:=hrow.le
       have hmx:xc<=9223372036854775807:=by have:=hrow.max;unfold maxLen at this;omega
       have HRW:Hid (Row wr 1 xa n xc (strC nr)):=hrow
       clear hx hrow
       go_upto_region 24 with fail
       have d0:(wr.alloc (.cells #[.string nl,.slice xa n xc,.string np] 55)).cell? ⟨wr.heap.size,0,none⟩=some (.string nl):=by rw [World.cell?_alloc_mark];rfl
       have d1:(wr.alloc (.cells #[.string nl,.slice xa n xc,.string np] 55)).cell? ⟨wr.heap.size,1,none⟩=some (.slice xa n xc):=by rw [World.cell?_alloc_mark];rfl
       have d2:(wr.alloc (.cells #[.string nl,.slice xa n xc,.string np] 55)).cell? ⟨wr.heap.size,2,none⟩=some (.string np):=by rw [World.cell?_alloc_mark];rfl
       have HQ:Hid (Row (wr.alloc (.cells #[.string nl,.slice xa n xc,.string np] 55)) 1 xa n xc (strC nr)/\Below wa.heap.size wa (wr.alloc (.cells #[.string nl,.slice xa n xc,.string np] 55))):=⟨HRW.out.below (qb _ _),qd J.out.1 (qb _ _)⟩
       have HJ:Hid (∀ i x,i<k->rs[i]?=some x->xq x):=J.out.2
       generalize wr.alloc (.cells #[.string nl,.slice xa n xc,.string np] 55)=wq at HQ d0 d1 d2 ⊢
       generalize wr.heap.size=tb at d0 d1 d2 ⊢
       clear p0 p1 p2 J HRW c3
       obtain ⟨y,hy⟩:=zr (¬ (zp nl/\n<=20/\kn np))
       have HY:Hid (y=true↔¬ (zp nl/\n<=20/\kn np)):=hy
       clear hy
       have H1:Hid (∀ W:World,Calls Tryz.prog 53 #[.string nl] W fun e w'=>e=.returned (.bool (nameOk (by8 nl)))/\w'=W):=fun W=>yi nl W (by omega)
       have H2:Hid (∀ W:World,Calls Tryz.prog 53 #[.string np] W fun e w'=>e=.returned (.bool (nameOk (by8 np)))/\w'=W):=fun W=>yi np W (by omega)
       go_cut [170] from 138 to 184 (fun s wd=>s=.bool y/\wd=wq)
       case first =>
        cases hnl:nameOk (by8 nl)
        ·have HF:Hid (y=true):=ky HY.out (fun h=>by have:=h.1;unfold zp at this;rw [hnl] at this;cases this)
         rw [hnl] at H1
         go_wp2_with fail
         refine (H1.out _).mono ?_
         rintro e w1 ⟨rfl,rfl⟩
         go_wp2_with fail
         go_meet
         exact ⟨by rw [HF.out],rfl⟩
        ·rw [hnl] at H1
         by_cases h20:n<=20
         ·have h20':¬ (20:Int)<(n:Int):=by omega
          have hst:(kn np/\(np.toList == [])=true)\/(kn np/\(np.toList == [])=false/\nameOk (by8 np)=true)\/(¬ kn np/\(np.toList == [])=false/\nameOk (by8 np)=false):=by
           unfold kn zp
           rw [<-zo]
           cases (np.toList == []) <;> cases nameOk (by8 np) <;> simp
          rcases hst with ⟨hst,hs3⟩ | ⟨hst,hs3,hs4⟩ | ⟨hst,hs3,hs4⟩
          ·have HF:Hid (y=false):=zb HY.out (fun h=>h ⟨hnl,h20,hst⟩)
           clear hst
           go_wp2_with fail
           refine (H1.out _).mono ?_
           rintro e w1 ⟨rfl,rfl⟩
           go_wp2_with fail
           go_meet
           exact ⟨by rw [HF.out];simp;omega,rfl⟩
          ·have HF:Hid (y=false):=zb HY.out (fun h=>h ⟨hnl,h20,hst⟩)
           rw [hs4] at H2
           clear hst
           go_wp2_with fail
           refine (H1.out _).mono ?_
           rintro e w1 ⟨rfl,rfl⟩
           go_wp2_with fail
           refine (H2.out _).mono ?_
           rintro e w2 ⟨rfl,rfl⟩
           go_wp2_with fail
           go_meet
           exact ⟨by rw [HF.out];simp;omega,rfl⟩
          ·have HF:Hid (y=true):=ky HY.out (fun h=>hst h.2.2)
           rw [hs4] at H2
           clear hst
           go_wp2_with fail
           refine (H1.out _).mono ?_
           rintro e w1 ⟨rfl,rfl⟩
           go_wp2_with fail
           refine (H2.out _).mono ?_
           rintro e w2 ⟨rfl,rfl⟩
           go_wp2_with fail
           go_meet
           exact ⟨by rw [HF.out],rfl⟩
         ·have h20':(20:Int)<(n:Int):=by omega
          have HF:Hid (y=true):=ky HY.out (fun h=>h20 h.2.1)
          go_wp2_with fail
          refine (H1.out _).mono ?_
          rintro e w1 ⟨rfl,rfl⟩
          go_wp2_with fail
          go_meet
          exact ⟨by rw [HF.out],rfl⟩
       case rest =>
        obtain ⟨rfl,hwc⟩:=hcut
        subst wc
        clear H1 H2 d0 d2
        cases y
        rotate_left
        ·have HF:Hid (r=false):=zb HP3.out (fun h=>HY.out.1 rfl (by have:=h _ (List.mem_of_getElem? HT.out);unfold xq at this;simp only at this;rw [HN.out] at this;exact ⟨this.1,this.2.1,this.2.2.1⟩))
         have HBF:Hid (Below w.heap.size w wq):=qd HB2.out HQ.out.2
         go_wp2_with fail
         go_ret
         exact ⟨by rw [HF.out];rfl,HBF.out⟩
        ·have HG:Hid (zp nl/\n<=20/\kn np):=by
          rcases Classical.em (zp nl/\n<=20/\kn np) with h | h
          ·exact h
          ·have:=HY.out.2 h;cases this
         clear HY
         go_wp2_with fail
         go_loop [10] (fun v=>∃ i:Nat,i<=n/\v=.int .i64 i/\Hid (∀ j x,j<i->nr[j]?=some x->zp x)) (fun v=>n - (intOf v).toNat)
         case atStart=>exact ⟨0,Nat.zero_le _,rfl,(fun j x h=>absurd h (Nat.not_lt_zero _):∀ j x,j<0->nr[j]?=some x->zp x)⟩
         case round =>
          obtain ⟨i,hi,rfl,J⟩:=hrel
          by_cases hlt2:i<n
          ·obtain ⟨x,hx⟩:∃ x,nr[i]?=some x:=⟨nr[i]'(by rw [HN.out];exact hlt2),List.getElem?_eq_getElem _⟩
           obtain ⟨b2,o2,hxa,q0⟩:=jm HQ.out.1 hx
           subst hxa
           have HX:Hid (nr[i]?=some x):=hx
           have H3:Hid (∀ W:World,Calls Tryz.prog 53 #[.string x] W fun e w'=>e=.returned (.bool (nameOk (by8 x)))/\w'=W):=fun W=>yi x W (by have:=hsz.2.2.2 x (List.mem_of_getElem? hx);omega)
           clear hx
           cases hnx:nameOk (by8 x)
           ·rw [hnx] at H3
            have HF:Hid (r=false):=zb HP3.out (fun h=>by have:=(h _ (List.mem_of_getElem? HT.out)).2.2.2 x (List.mem_of_getElem? HX.out);unfold zp at this;rw [hnx] at this;cases this)
            have HBF:Hid (Below w.heap.size w wq):=qd HB2.out HQ.out.2
            clear hnx
            go_wp2_with (go_at_call 53;refine (H3.out _).mono ?_;rintro e w2 ⟨rfl,rfl⟩)
            go_ret
            exact ⟨by rw [HF.out];rfl,HBF.out⟩
           ·rw [hnx] at H3
            have HF:Hid (∀ j x,j<i+1->nr[j]?=some x->zp x):=fun j v hj hv=>by
             rcases Nat.lt_or_ge j i with h | h
             ·exact J.out j v h hv
             ·have:j=i:=by omega
              subst this
              rw [HX.out] at hv
              cases hv
              exact hnx
            clear hnx
            go_wp2_with (go_at_call 53;refine (H3.out _).mono ?_;rintro e w2 ⟨rfl,rfl⟩)
            go_round
            case rel=>exact ⟨i+1,by omega,by simp,HF⟩
            case measure=>simp [intOf];omega
          ·have HF:Hid (∀ i x,i<k+1->rs[i]?=some x->xq x):=fun j v hj hv=>by
            rcases Nat.lt_or_ge j k with h | h
            ·exact HJ.out j v h hv
            ·have:j=k:=by omega
             subst this
             rw [HT.out] at hv
             cases hv
             exact ⟨HG.out.1,by simp only;rw [HN.out];exact HG.out.2.1,HG.out.2.2,fun x hx=>by
              obtain ⟨i',hi'⟩:=List.getElem?_of_mem hx
              have hl:i'<nr.length:=(List.getElem?_eq_some_iff.1 hi').1
              exact J.out i' x (by rw [HN.out] at hl;omega) hi'⟩
           go_wp2_with fail
           go_roundg (rn - (k+1))
           case measure=>omega
           case rel=>exact ⟨k+1,by simp,by omega,Nat.le_refl _,(⟨HQ.out.2,HF.out⟩:Below wa.heap.size wa _/\∀ i x,i<k+1->rs[i]?=some x->xq x)⟩
      ·have HF:Hid (r=true):=ky HP3.out (fun x hx=>by
        obtain ⟨i,hi⟩:=List.getElem?_of_mem hx
        have hl:i<rs.length:=(List.getElem?_eq_some_iff.1 hi).1
        exact J.out.2 i x (by rw [HRN.out] at hl;omega) hi)
       have HBF:Hid (Below w.heap.size w wr):=qd HB2.out J.out.1
       go_wp2_with fail
       go_ret
       exact ⟨by rw [HF.out];rfl,HBF.out⟩
theorem qiy (w:World):Calls Tryz.prog 126 #[] w fun e w'=>e=.returned (.bool true)/\Below w.heap.size w w':=by
 have H:Hid (Calls Tryz.prog 150 #[] w fun e w'=>e=.returned (.bool true)/\Below w.heap.size w w'):=qkz w
 go_enter Tryz.func126,Tryz.ntmps126
 go_wp2_with fail
 refine H.out.mono ?_
 rintro e w1 ⟨rfl,hB⟩
 go_wp2_with fail
 go_ret
 exact ⟨rfl,hB⟩
theorem nm1:zp bN/\zp bP/\zp bM/\zp bE:=by
 refine ⟨?_,?_,?_,?_⟩ <;> (unfold zp;kernel_rfl)
theorem qj1:levF qu.ts=some [0,1,1,0,0,0,0,0,0]:=by
 unfold levF qu jl
 simp only [List.foldl]
 have h1:LevP ⟨bN,0,0⟩:=.inl ⟨rfl,rfl⟩
 have h2:LevP ⟨bP,1,1⟩:=.inr ⟨by decide,by decide,by decide,by decide⟩
 have h3:LevP ⟨bM,2,1⟩:=.inr ⟨by decide,by decide,by decide,by decide⟩
 simp [levS,h1,h2,h3,at9]
theorem qb4:MayP qu:=by
 obtain ⟨hN,hP,hM,hE⟩:=nm1
 refine ⟨by decide,by decide,by decide,by decide,.inl rfl,⟨?_,_,qj1,?_⟩,?_⟩
 ·intro i t ht
  match i,ht with
  | 0,ht=>cases ht;exact ⟨hN,fun j u hj=>absurd hj (Nat.not_lt_zero _)⟩
  | 1,ht =>
   cases ht
   refine ⟨hP,fun j u hj hu=>?_⟩
   obtain rfl:j=0:=by omega
   cases hu
   intro e
   have:=congrArg by8 e
   exact absurd this (by decide)
  | 2,ht =>
   cases ht
   refine ⟨hM,fun j u hj hu=>?_⟩
   match j,hj,hu with
   | 0,_,hu=>cases hu;intro e;have:=congrArg by8 e;exact absurd this (by decide)
   | 1,_,hu=>cases hu;intro e;have:=congrArg by8 e;exact absurd this (by decide)
  | i+3,ht=>cases ht
 ·intro k h1 h2 h3
  match k,h2,h3 with
  | 0,_,_=>omega
  | 1,_,_=>omega
  | 2,_,_=>decide
  | 3,_,h3=>exact absurd rfl h3
  | 4,_,h3=>exact absurd rfl h3
  | 5,_,h3=>exact absurd rfl h3
  | 6,_,h3=>exact absurd rfl h3
  | 7,_,h3=>exact absurd rfl h3
  | 8,_,h3=>exact absurd rfl h3
 ·intro r hr
  simp only [qu,List.mem_cons,List.not_mem_nil,or_false] at hr
  rcases hr with rfl | rfl | rfl
  ·refine ⟨hE,by decide,.inl rfl,fun x hx=>?_⟩
   simp only [List.mem_cons,List.not_mem_nil,or_false] at hx
   rcases hx with rfl | rfl | rfl
   ·exact hE
   ·exact hP
   ·exact hE
  ·refine ⟨hE,by decide,.inl rfl,fun x hx=>?_⟩
   simp only [List.mem_cons,List.not_mem_nil,or_false] at hx
   rcases hx with rfl | rfl | rfl
   ·exact hE
   ·exact hM
   ·exact hE
  ·refine ⟨hE,by decide,.inl rfl,fun x hx=>?_⟩
   rw [List.mem_singleton] at hx
   subst hx
   exact hN
def sumsT:ByteArray:=⟨(tx (vr qu [0,1,1,0,0,0,0,0,0])).toArray⟩
theorem qn5:qmz qu sumsT:=⟨fun _ l hl=>by rw [qj1] at hl;cases hl;rfl,fun h=>absurd qb4 h⟩
def badG:Gm:=⟨[],⟨#[49]⟩,0,[]⟩
theorem qq1:¬ MayP badG:=fun h=>by
 rcases h.st with h1 | h1
 ·have:=congrArg by8 h1;exact absurd this (by decide)
 ·unfold zp at h1
  have h2:nameOk (by8 badG.s)=false:=by kernel_rfl
  rw [h2] at h1;cases h1
theorem qn6:Small badG:=⟨by decide,by decide,by decide,fun t h=>(by cases h),fun r h=>(by cases h)⟩
theorem qq2 (w:World):IsG w ⟨none,0,none,0⟩ badG:=⟨⟨rfl,Nat.le_refl _,Nat.zero_le _,.inl ⟨rfl,rfl,rfl⟩⟩,⟨[],rfl,⟨rfl,Nat.le_refl _,Nat.zero_le _,.inl ⟨rfl,rfl,rfl⟩⟩,fun q h=>(by cases h)⟩,qn6⟩
def qgk:Gm:=⟨qu.ts,qu.s,qu.e,qu.rs.set 0 ⟨bE,[bE,bP,bE],bM⟩⟩
theorem qpm:qu≠qgk:=fun h=>by
 have h1:(qu.rs.map fun r=>by8 r.p)=qgk.rs.map fun r=>by8 r.p:=by rw [h]
 exact absurd h1 (by decide)
theorem qk9:Small qgk:=by
 obtain ⟨h1,h2,h3,h4,h5⟩:=qan
 refine ⟨h1,by decide,h3,h4,fun r hr=>?_⟩
 rcases List.mem_or_eq_of_mem_set hr with h | h
 ·exact h5 r h
 ·subst h
  have:=h5 ⟨bE,[bE,bP,bE],e0⟩ (by simp [qu])
  exact ⟨this.1,by decide,this.2.2.1,this.2.2.2⟩
theorem qj2 (w:World) (hp:Pow w):Calls Tryz.prog 111 #[] w fun e w'=>e=.returned (.bool true)/\Below w.heap.size w w':=by
 have HP:Hid (Pow w):=hp
 have H1:Hid (∀ W:World,Calls Tryz.prog 25 #[] W fun e w'=>∃ h qs,e=.returned (gv h qu)/\OwnG w' W.heap.size h qu qs/\Below W.heap.size W w'):=fun W=>qdb W
 clear hp
 go_enter Tryz.func111,Tryz.ntmps111
 go_wp2_with fail
 refine (H1.out _).mono ?_
 rintro e w1 ⟨⟨ta,tc,ra,rc⟩,qs,rfl,ho,hB1⟩
 have J1:Hid (IsG w1 ⟨ta,tc,ra,rc⟩ qu/\Below w.heap.size w w1):=⟨ho.isG qan,hB1⟩
 clear ho hB1
 have eg:gv ⟨ta,tc,ra,rc⟩ qu=.agg #[.slice ta 3 tc,.string ⟨#[]⟩,.int .i64 0,.slice ra 3 rc]:=rfl
 rw [eg]
 go_wp2_with fail
 refine (H1.out _).mono ?_
 rintro e w2 ⟨⟨ua,uc,sa,sc⟩,ps,rfl,ho2,hB2⟩
 have ek:gv ⟨ua,uc,sa,sc⟩ qu=.agg #[.slice ua 3 uc,.string ⟨#[]⟩,.int .i64 0,.slice sa 3 sc]:=rfl
 rw [ek]
 have hbw2:Below (w1.alloc (.cells #[.slice ta 3 tc,.string ⟨#[]⟩,.int .i64 0,.slice ra 3 rc] 25)).heap.size (w1.alloc (.cells #[.slice ta 3 tc,.string ⟨#[]⟩,.int .i64 0,.slice ra 3 rc] 25)) w2:=hB2
 obtain ⟨g5,rfl⟩:∃ g5,sa=some ⟨g5,0,none⟩:=by
  obtain ⟨a,c,e,-,-,h⟩:=zh ho2.rul
  cases e
  rcases h with h | h
  ·exact absurd h.2.1 (by decide)
  ·exact h
 have hps:∃ q,ps[0]?=some q:=by
  have:=congrArg List.length ho2.map
  rw [List.length_map] at this
  exact ⟨ps[0]'(by rw [this];decide),List.getElem?_eq_getElem _⟩
 obtain ⟨q,hq⟩:=hps
 have hq1:q.1=⟨bE,[bE,bP,bE],e0⟩:=by
  have:=congrArg (fun l=>l[0]?) ho2.map
  simp only [List.getElem?_map,hq] at this
  exact Option.some.inj this
 have hgl:=World.ownsRow.lt ho2.rul g5 rfl
 have ho3:=ho2.below (qb w2 (.cells #[.slice ua 3 uc,.string ⟨#[]⟩,.int .i64 0,.slice (some ⟨g5,0,none⟩) 3 sc] 25))
 have hsc:3<=sc/\sc<=9223372036854775807:=by
  have h1:=(Row.of_own ho2.rul).le
  have h2:=(Row.of_own ho2.rul).max
  unfold maxLen at h2
  have h3:qu.rs.length=3:=rfl
  simp only at h1 h2
  omega
 have ho4:=ho3.setRule (g:=g5) rfl (i:=0) (j:=2) hq (by omega) ⟨bE,[bE,bP,bE],bM⟩ (.string bM) (by rw [hq1]) (by rw [hq1];rfl)
 have hcz:=qpk (j:=2) (u:=.string e0) ho3.rul (by
  unfold rulC
  have h3:=vp (fun q:Ru × Option Addr × Nat=>([.string q.1.l,.slice q.2.1 q.1.r.length q.2.2,.string q.1.p]:List Value)) (fun _=>rfl) ps 0 q 2 hq (by omega)
  rw [Nat.zero_mul,Nat.zero_add] at h3
  rw [h3,hq1];rfl)
 have hbx:Below (w1.heap.size+1) (w1.alloc (.cells #[.slice ta 3 tc,.string ⟨#[]⟩,.int .i64 0,.slice ra 3 rc] 25)) ((w2.alloc (.cells #[.slice ua 3 uc,.string ⟨#[]⟩,.int .i64 0,.slice (some ⟨g5,0,none⟩) 3 sc] 25)).setCell ⟨g5,2,none⟩ (.string bM)):=by
  have h1:=qd hbw2 (qb w2 (.cells #[.slice ua 3 uc,.string ⟨#[]⟩,.int .i64 0,.slice (some ⟨g5,0,none⟩) 3 sc] 25))
  rw [qt] at h1
  refine h1.setCell (p:=⟨g5,2,none⟩) ?_ _
  have:=hgl.1
  rw [qt] at this
  exact this
 go_upto_region 3 with fail
 have d3:(w2.alloc (.cells #[.slice ua 3 uc,.string ⟨#[]⟩,.int .i64 0,.slice (some ⟨g5,0,none⟩) 3 sc] 25)).cell? ⟨w2.heap.size,3,none⟩=some (.slice (some ⟨g5,0,none⟩) 3 sc):=by rw [World.cell?_alloc_mark];rfl
 have c2:(w2.alloc (.cells #[.slice ua 3 uc,.string ⟨#[]⟩,.int .i64 0,.slice (some ⟨g5,0,none⟩) 3 sc] 25)).cell? ⟨g5,2,none⟩=some (.string e0):=hcz.1
 have f2:(w2.alloc (.cells #[.slice ua 3 uc,.string ⟨#[]⟩,.int .i64 0,.slice (some ⟨g5,0,none⟩) 3 sc] 25)).frozen? ⟨g5,2,none⟩=false:=hcz.2
 have HK:Hid (∀ j v,(w2.alloc (.cells #[.slice ua 3 uc,.string ⟨#[]⟩,.int .i64 0,.slice (some ⟨g5,0,none⟩) 3 sc] 25)).cell? ⟨w2.heap.size,j,none⟩=some v->((w2.alloc (.cells #[.slice ua 3 uc,.string ⟨#[]⟩,.int .i64 0,.slice (some ⟨g5,0,none⟩) 3 sc] 25)).setCell ⟨g5,2,none⟩ (.string bM)).cell? ⟨w2.heap.size,j,none⟩=some v):=fun j v h=>qz h (by have:=hgl.2;simp only;omega)
 have k0:=HK.out 0 (.slice ua 3 uc) (by rw [World.cell?_alloc_mark];rfl)
 have k1:=HK.out 1 (.string ⟨#[]⟩) (by rw [World.cell?_alloc_mark];rfl)
 have k2:=HK.out 2 (.int .i64 0) (by rw [World.cell?_alloc_mark];rfl)
 have k3:=HK.out 3 _ d3
 have HGC:Hid (∀ j v,(w1.alloc (.cells #[.slice ta 3 tc,.string ⟨#[]⟩,.int .i64 0,.slice ra 3 rc] 25)).cell? ⟨w1.heap.size,j,none⟩=some v->((w2.alloc (.cells #[.slice ua 3 uc,.string ⟨#[]⟩,.int .i64 0,.slice (some ⟨g5,0,none⟩) 3 sc] 25)).setCell ⟨g5,2,none⟩ (.string bM)).cell? ⟨w1.heap.size,j,none⟩=some v):=fun j v h=>by
  rw [<-h]
  unfold World.cell?
  rw [hbx.block w1.heap.size (by omega)]
 have m0:=HGC.out 0 (.slice ta 3 tc) (by rw [World.cell?_alloc_mark];rfl)
 have m1:=HGC.out 1 (.string ⟨#[]⟩) (by rw [World.cell?_alloc_mark];rfl)
 have m2:=HGC.out 2 (.int .i64 0) (by rw [World.cell?_alloc_mark];rfl)
 have m3:=HGC.out 3 (.slice ra 3 rc) (by rw [World.cell?_alloc_mark];rfl)
 have hW4:Below w1.heap.size w1 ((w2.alloc (.cells #[.slice ua 3 uc,.string ⟨#[]⟩,.int .i64 0,.slice (some ⟨g5,0,none⟩) 3 sc] 25)).setCell ⟨g5,2,none⟩ (.string bM)):=(qb w1 _).trans (hbx.mono (by omega))
 have J4:Hid (IsG ((w2.alloc (.cells #[.slice ua 3 uc,.string ⟨#[]⟩,.int .i64 0,.slice (some ⟨g5,0,none⟩) 3 sc] 25)).setCell ⟨g5,2,none⟩ (.string bM)) ⟨ta,tc,ra,rc⟩ qu/\IsG ((w2.alloc (.cells #[.slice ua 3 uc,.string ⟨#[]⟩,.int .i64 0,.slice (some ⟨g5,0,none⟩) 3 sc] 25)).setCell ⟨g5,2,none⟩ (.string bM)) ⟨ua,uc,some ⟨g5,0,none⟩,sc⟩ qgk/\Below w.heap.size w ((w2.alloc (.cells #[.slice ua 3 uc,.string ⟨#[]⟩,.int .i64 0,.slice (some ⟨g5,0,none⟩) 3 sc] 25)).setCell ⟨g5,2,none⟩ (.string bM))/\Pow ((w2.alloc (.cells #[.slice ua 3 uc,.string ⟨#[]⟩,.int .i64 0,.slice (some ⟨g5,0,none⟩) 3 sc] 25)).setCell ⟨g5,2,none⟩ (.string bM))) :=
  ⟨J1.out.1.below hW4,ho4.isG qk9,qd J1.out.2 hW4,HP.out.below (qd J1.out.2 hW4)⟩
 clear hB2 hbw2 ho2 ho3 ho4 hcz hbx hW4 HK HGC hq hq1 hgl J1 H1 HP ek eg
 go_upto_region 4 with fail
 clear d3 c2 f2
 have ebM:(.string bM:Value)=.string ⟨#[77]⟩:=rfl
 rw [ebM] at k0 k1 k2 k3 m0 m1 m2 m3 J4
 generalize (w2.alloc (.cells #[.slice ua 3 uc,.string ⟨#[]⟩,.int .i64 0,.slice (some ⟨g5,0,none⟩) 3 sc] 25)).setCell ⟨g5,2,none⟩ (.string ⟨#[77]⟩)=w4 at k0 k1 k2 k3 m0 m1 m2 m3 J4 ⊢
 generalize w1.heap.size=gb at m0 m1 m2 m3 ⊢
 generalize w2.heap.size=hb at k0 k1 k2 k3 ⊢
 have HK0:Hid (∀ W:World,Below w4.heap.size w4 W->W.cell? ⟨hb,0,none⟩=some (.slice ua 3 uc)/\W.cell? ⟨hb,1,none⟩=some (.string ⟨#[]⟩)/\W.cell? ⟨hb,2,none⟩=some (.int .i64 0)/\W.cell? ⟨hb,3,none⟩=some (.slice (some ⟨g5,0,none⟩) 3 sc)):=fun W hW=>⟨qj hW k0,qj hW k1,qj hW k2,qj hW k3⟩
 have HM0:Hid (∀ W:World,Below w4.heap.size w4 W->W.cell? ⟨gb,0,none⟩=some (.slice ta 3 tc)/\W.cell? ⟨gb,1,none⟩=some (.string ⟨#[]⟩)/\W.cell? ⟨gb,2,none⟩=some (.int .i64 0)/\W.cell? ⟨gb,3,none⟩=some (.slice ra 3 rc)):=fun W hW=>⟨qj hW m0,qj hW m1,qj hW m2,qj hW m3⟩
 have T1:Hid (Calls Tryz.prog 125 #[.agg #[.slice ta 3 tc,.string ⟨#[]⟩,.int .i64 0,.slice ra 3 rc]] w4 fun e w'=>e=.returned (.string sumsT)/\Below w4.heap.size w4 w'):=qm2 qu ⟨ta,tc,ra,rc⟩ w4 sumsT J4.out.1 J4.out.2.2.2 qn5
 have M1:Hid (∀ W:World,Below w4.heap.size w4 W->Calls Tryz.prog 80 #[.agg #[.slice ta 3 tc,.string ⟨#[]⟩,.int .i64 0,.slice ra 3 rc]] W fun e w'=>e=.returned (.bool true)/\Below W.heap.size W w'):=fun W hW=>qce qu ⟨ta,tc,ra,rc⟩ W true (J4.out.1.below hW) ⟨fun _=>qb4,fun _=>rfl⟩
 have M2:Hid (∀ W:World,Calls Tryz.prog 80 #[.agg #[.slice none 0 0,.string ⟨#[49]⟩,.int .i64 0,.slice none 0 0]] W fun e w'=>e=.returned (.bool false)/\Below W.heap.size W w'):=fun W=>qce badG ⟨none,0,none,0⟩ W false (qq2 W) ⟨fun h=>(by cases h),fun h=>absurd h qq1⟩
 have E1:Hid (∀ W:World,Below w4.heap.size w4 W->Calls Tryz.prog 127 #[.agg #[.slice ta 3 tc,.string ⟨#[]⟩,.int .i64 0,.slice ra 3 rc],.agg #[.slice ta 3 tc,.string ⟨#[]⟩,.int .i64 0,.slice ra 3 rc]] W fun e w'=>e=.returned (.bool true)/\Below W.heap.size W w'):=fun W hW=>qjv qu qu ⟨ta,tc,ra,rc⟩ ⟨ta,tc,ra,rc⟩ W true (J4.out.1.below hW) (J4.out.1.below hW) ⟨fun _=>rfl,fun _=>rfl⟩
 have E2:Hid (∀ W:World,Below w4.heap.size w4 W->Calls Tryz.prog 127 #[.agg #[.slice ta 3 tc,.string ⟨#[]⟩,.int .i64 0,.slice ra 3 rc],.agg #[.slice ua 3 uc,.string ⟨#[]⟩,.int .i64 0,.slice (some ⟨g5,0,none⟩) 3 sc]] W fun e w'=>e=.returned (.bool false)/\Below W.heap.size W w'):=fun W hW=>qjv qu qgk ⟨ta,tc,ra,rc⟩ ⟨ua,uc,some ⟨g5,0,none⟩,sc⟩ W false (J4.out.1.below hW) (J4.out.2.1.below hW) ⟨fun h=>(by cases h),fun h=>absurd h qpm⟩
 have hsT:(sumsT.toList == [37,116,111,107,101,110,32,78,32,80,32,77,10,37,108,101,102,116,32,80,10,37,108,101,102,116,32,77,10,37,37,10,101,32,58,32,101,32,80,32,101,32,59,10,101,32,58,32,101,32,77,32,101,32,59,10,101,32,58,32,78,32,59,10])=true:=by rw [xz];kernel_rfl
 have HW:Hid (Below w.heap.size w w4):=J4.out.2.2.1
 generalize sumsT=sT at T1 hsT
 clear J4 k0 k1 k2 k3
 go_wp2_with fail
 refine T1.out.mono ?_
 rintro e w5 ⟨rfl,hB5⟩
 have HB5:Hid (Below w4.heap.size w4 w5):=hB5
 clear hB5 m0 m1 m2 m3
 go_wp2_with fail
 refine (qiy _).mono ?_
 rintro e w6 ⟨rfl,hB6⟩
 have HB6:Hid (Below w4.heap.size w4 w6):=qd HB5.out hB6
 clear hB6 HB5
 obtain ⟨m0,m1,m2,m3⟩:=HM0.out _ HB6.out
 go_wp2_with fail
 refine (M1.out _ HB6.out).mono ?_
 rintro e w7 ⟨rfl,hB7⟩
 have HB7:Hid (Below w4.heap.size w4 w7):=qd HB6.out hB7
 clear hB7 HB6 m0 m1 m2 m3
 go_wp2_with fail
 refine (M2.out _).mono ?_
 rintro e w8 ⟨rfl,hB8⟩
 have HB8:Hid (Below w4.heap.size w4 w8):=qd HB7.out hB8
 clear hB8 HB7
 obtain ⟨m0,m1,m2,m3⟩:=HM0.out _ HB8.out
 go_wp2_with fail
 refine (E1.out _ HB8.out).mono ?_
 rintro e w9 ⟨rfl,hB9⟩
 have HB9:Hid (Below w4.heap.size w4 w9):=qd HB8.out hB9
 clear hB9 HB8 m0 m1 m2 m3
 obtain ⟨m0,m1,m2,m3⟩:=HM0.out _ HB9.out
 obtain ⟨k0,k1,k2,k3⟩:=HK0.out _ HB9.out
 go_wp2_with fail
 refine (E2.out _ HB9.out).mono ?_
 rintro e w10 ⟨rfl,hB10⟩
 have HBF:Hid (Below w.heap.size w w10):=qd HW.out (qd HB9.out hB10)
 clear hB10 HB9 m0 m1 m2 m3 k0 k1 k2 k3
 go_wp2_with fail
 go_ret
 exact ⟨rfl,HBF.out⟩
theorem Tryz.info58:(Tryz.prog.info? 58).map (fun i=>(i.zero,i.size,i.bytes))=some (some (.agg #[.string ⟨#[]⟩,.int .i64 0,.int .i64 0]),3,32):=by kernel_rfl
theorem Tryz.info55:(Tryz.prog.info? 55).map (fun i=>(i.zero,i.size,i.bytes))=some (some (.agg #[.string ⟨#[]⟩,.slice none 0 0,.string ⟨#[]⟩]),3,56):=by kernel_rfl
theorem qe1 (a b:List Tk):tokC (a++b)=tokC a++tokC b:=by unfold tokC;rw [List.flatMap_append]
theorem qe2 (a b:List (Ru × Option Addr × Nat)):rulC (a++b)=rulC a++rulC b:=by unfold rulC;rw [List.flatMap_append]
theorem zd {w:World} {base base' E k n:Nat} {v:Value} {cs:List Value} (h:w.ownsRow base E k v n cs) (hb:base'<=base):w.ownsRow base' E k v n cs:=by
 refine ⟨h.1,?_⟩
 rcases h.2 with hn | ⟨g,cap,cur,rfl,hg,r⟩
 ·exact .inl hn
 ·exact .inr ⟨g,cap,cur,rfl,by omega,r⟩
theorem u29:Tryz.prog.underlying 26=some (.slice 3):=by kernel_rfl
theorem u28:Tryz.prog.underlying 28=some (.slice 9):=by kernel_rfl
theorem u30:Tryz.prog.underlying 29=some (.slice 47):=by kernel_rfl
theorem u39:Tryz.prog.underlying 38=some (.slice 26):=by kernel_rfl
theorem u51:Tryz.prog.underlying 41=some (.slice 4):=by kernel_rfl
theorem i3:(Tryz.prog.info? 3).map (fun i=>(i.zero,i.size,i.bytes))=some (some (.int .i64 0),1,8):=by kernel_rfl
theorem i4:(Tryz.prog.info? 4).map (fun i=>(i.zero,i.size,i.bytes))=some (some (.bool false),1,1):=by kernel_rfl
theorem i29:(Tryz.prog.info? 26).map (fun i=>(i.zero,i.size,i.bytes))=some (some (.slice none 0 0),1,24):=by kernel_rfl
theorem i9:(Tryz.prog.info? 9).map (fun i=>(i.zero,i.size,i.bytes))=some (some (.string ⟨#[]⟩),1,16):=by kernel_rfl
theorem i62:(Tryz.prog.info? 47).map (fun i=>(i.zero,i.size,i.bytes))=some (some (.agg #[.int .i64 0,.slice none 0 0,.int .i64 0,.int .i64 0]),4,48):=by kernel_rfl
theorem jc {W:World} {B T E k n nc:Nat} {na:Option Addr} {z:Value} {by_:Nat} {cs us:List Value} (ht:Tryz.prog.underlying T=some (.slice E)) (hi0:(Tryz.prog.info? E).map (fun i=>(i.zero,i.size,i.bytes))=some (some z,k,by_)) (hzc:z.cells.size=k) (hk:0<k) (hby:by_<=100) (hus:us.length=k) (hone:∀ u∈us,u.oneCell'=true)
  (h:W.ownsRow B E k (.slice na n nc) n cs) (hB:B<=W.heap.size) (hn:n<100000) :
  ∃ g c W',(Builtin.append_ #[T,T] T #[.slice na n nc,.slice (some ⟨W.heap.size,0,none⟩) 1 1]).run Tryz.prog (W.alloc (.cells us.toArray E))=.ok (.slice (some ⟨g,0,none⟩) (n+1) c) W'/\W'.ownsRow B E k (.slice (some ⟨g,0,none⟩) (n+1) c) (n+1) (cs++us) /\
   Kept (fun j=>(Value.slice na n nc).ownBlock=some j) (W.alloc (.cells us.toArray E)) W'/\((Value.slice na n nc).ownBlock=some g\/W.heap.size<=g):=by
 obtain ⟨i0,hi,hz0,hz1,hz2⟩:=info_parts hi0
 have hnews:∀ j x,us[j]?=some x->(W.alloc (.cells us.toArray E)).cell? ((⟨W.heap.size,0,none⟩:Addr).add j)=some x:=by
  intro j x hx
  rw [Addr.add_lit,Nat.zero_add,World.cell?_alloc_mark,<-hx]
  exact List.getElem?_toArray (xs:=us) (i:=j)
 have hbb:(n+1) * by_<=140737488355328:=Nat.le_trans (Nat.mul_le_mul (by omega:n+1<=100000) hby) (by decide)
 obtain ⟨v',w',hr,h2,h3,-⟩:=run_append_own (P:=Tryz.prog) (W.alloc (.cells us.toArray E)) B T T E i0 _ k by_ ht hi hz0 hz1 hz2 hzc hk _ n _ (h.alloc _) ⟨W.heap.size,0,none⟩ 1 1 us (by rw [Nat.one_mul];exact hus) hnews
  hone (by unfold maxLen;omega) hbb (by rw [qt];omega)
 obtain ⟨v1,w1,hr1,-,hk1,hl1⟩:=qai (P:=Tryz.prog) (W.alloc (.cells us.toArray E)) T T E i0 _ k by_ ht hi hz0 hz1 hz2 hzc hk _ n _ (zd (h.alloc _) (Nat.zero_le _)) ⟨W.heap.size,0,none⟩ 1 1 us (by rw [Nat.one_mul];exact hus) hnews
  hone (by unfold maxLen;omega) hbb
 rw [hr] at hr1
 injection hr1 with e1 e2
 subst e1 e2
 obtain ⟨ao,c,rfl,h4,h5,h6⟩:=zh h2
 obtain ⟨g,rfl⟩:∃ g,ao=some ⟨g,0,none⟩:=by
  rcases h6 with ⟨-,h6,-⟩ | h6
  ·omega
  ·exact h6
 refine ⟨g,c,w',hr,h2,hk1,?_⟩
 rcases hl1 g rfl with h7 | h7
 ·exact .inl h7
 ·rw [qt] at h7
  exact .inr (by omega)
theorem z8 {W:World} {B E k n nc:Nat} {na:Option Addr} {cs:List Value} (h:W.ownsRow B E k (.slice na n nc) n cs):n<=nc/\nc<=9223372036854775807:=by
 obtain ⟨ao,cap,e,h1,h2,-⟩:=zh h
 cases e
 unfold maxLen at h2
 exact ⟨h1,by omega⟩
def natC (l:List Nat):List Value:=l.map fun (x:Nat)=>Value.int .i64 (x:Int)
def intC (l:List Int):List Value:=l.map fun x=>.int .i64 x
def booC (l:List Bool):List Value:=l.map .bool
def srC (qs:List (SR × Option Addr × Nat)):List Value:=qs.flatMap fun q=>[.int .i64 q.1.l,.slice q.2.1 q.1.r.length q.2.2,.int .i64 q.1.lv,.int .i64 q.1.a]
theorem jf (l:List Nat) (x:Nat):natC (l++[x])=natC l++[.int .i64 (x:Int)]:=by unfold natC;rw [List.map_append];rfl
theorem js (l:List Nat):(natC l).length=l.length:=by unfold natC;rw [List.length_map]
def qci (w:World) (ao:Option Addr) (n cap:Nat) (rs:List SR):Prop :=
 ∃ qs:List (SR × Option Addr × Nat),qs.map (·.1)=rs/\Row w 4 ao n cap (srC qs)/\∀ q∈qs,Row w 1 q.2.1 q.1.r.length q.2.2 (natC q.1.r)
theorem qci.below {w w':World} {ao:Option Addr} {n cap:Nat} {rs:List SR} (h:qci w ao n cap rs) (hb:Below w.heap.size w w'):qci w' ao n cap rs:=by
 obtain ⟨qs,h1,h2,h3⟩:=h
 exact ⟨qs,h1,h2.below hb,fun q hq=>(h3 q hq).below hb⟩
theorem qci.at {w:World} {ao:Option Addr} {n cap:Nat} {rs:List SR} (h:qci w ao n cap rs) {i:Nat} {r:SR} (hr:rs[i]?=some r) :
  ∃ b o xa xc,ao=some ⟨b,o,none⟩/\w.cell? ⟨b,o+i * 4,none⟩=some (.int .i64 r.l)/\w.cell? ⟨b,o+i * 4+1,none⟩=some (.slice xa r.r.length xc)/\w.cell? ⟨b,o+i * 4+2,none⟩=some (.int .i64 r.lv)/\w.cell? ⟨b,o+i * 4+3,none⟩=some (.int .i64 r.a)/\Row w 1 xa r.r.length xc (natC r.r):=by
 obtain ⟨qs,rfl,h2,h3⟩:=h
 rw [List.getElem?_map] at hr
 obtain ⟨q,hq,rfl⟩:=Option.map_eq_some_iff.1 hr
 have hl:=h2.len
 unfold srC at hl
 rw [qcq _ (fun _=>rfl)] at hl
 have hi:i<qs.length:=(List.getElem?_eq_some_iff.1 hq).1
 obtain ⟨b,o,he,hc⟩:=h2.at (by omega)
 have c:=fun j hj=>qas (fun q:SR × Option Addr × Nat=>[Value.int .i64 q.1.l,.slice q.2.1 q.1.r.length q.2.2,.int .i64 q.1.lv,.int .i64 q.1.a]) (fun _=>rfl) qs i q j hq hj
 refine ⟨b,o,q.2.1,q.2.2,he,?_,?_,?_,?_,h3 q (List.mem_of_getElem? hq)⟩
 ·exact hc (i * 4+0) _ (by unfold srC;rw [c 0 (by omega)];rfl)
 ·exact hc (i * 4+1) _ (by unfold srC;rw [c 1 (by omega)];rfl)
 ·exact hc (i * 4+2) _ (by unfold srC;rw [c 2 (by omega)];rfl)
 ·exact hc (i * 4+3) _ (by unfold srC;rw [c 3 (by omega)];rfl)
theorem vj {w:World} {ao:Option Addr} {n cap:Nat} {l:List Nat} (h:Row w 1 ao n cap (natC l)) {i x:Nat} (ht:l[i]?=some x):∃ b o,ao=some ⟨b,o,none⟩/\w.cell? ⟨b,o+i,none⟩=some (.int .i64 (x:Int)):=by
 have hl:=h.len
 rw [js] at hl
 have hi:i<l.length:=(List.getElem?_eq_some_iff.1 ht).1
 obtain ⟨b,o,he,hc⟩:=h.at (by omega)
 exact ⟨b,o,he,hc i _ (by unfold natC;rw [List.getElem?_map,ht];rfl)⟩
theorem qcy {w:World} {ao:Option Addr} {n cap:Nat} {l:List Int} (h:Row w 1 ao n cap (intC l)) {i:Nat} {x:Int} (ht:l[i]?=some x):∃ b o,ao=some ⟨b,o,none⟩/\w.cell? ⟨b,o+i,none⟩=some (.int .i64 x):=by
 have hl:=h.len
 unfold intC at hl
 rw [List.length_map] at hl
 have hi:i<l.length:=(List.getElem?_eq_some_iff.1 ht).1
 obtain ⟨b,o,he,hc⟩:=h.at (by omega)
 exact ⟨b,o,he,hc i _ (by unfold intC;rw [List.getElem?_map,ht];rfl)⟩
structure SHd where
 na:Option Addr
 nc:Nat
 la:Option Addr
 lc:Nat
 aa:Option Addr
 ac:Nat
 ra:Option Addr
 rc:Nat
def sC (h:SHd) (S:Sp):Array Value:=#[.int .i64 (S.tk:Int),.int .i64 (S.nt:Int),.int .i64 (S.st:Int),.int .i64 S.ex,.slice h.na S.nm.length h.nc,.slice h.la S.lv.length h.lc,.slice h.aa S.az.length h.ac,.slice h.ra S.rs.length h.rc]
def sv (h:SHd) (S:Sp):Value:=.agg (sC h S)
structure IsSp (w:World) (h:SHd) (S:Sp):Prop where
 nm:Row w 1 h.na S.nm.length h.nc (strC S.nm)
 lv:Row w 1 h.la S.lv.length h.lc (intC S.lv)
 az:Row w 1 h.aa S.az.length h.ac (intC S.az)
 rl:qci w h.ra S.rs.length h.rc S.rs
theorem IsSp.below {w w':World} {h:SHd} {S:Sp} (g:IsSp w h S) (hb:Below w.heap.size w w'):IsSp w' h S:=⟨g.nm.below hb,g.lv.below hb,g.az.below hb,g.rl.below hb⟩
theorem ze {w:World} {k n cap:Nat} {ao:Option Addr} {cs:List Value} (h:Row w k ao n cap cs):n<=cap/\cap<=9223372036854775807:=by
 have h1:=h.le;have h2:=h.max;unfold maxLen at h2;omega
theorem j6 {w:World} {n cap:Nat} {ao:Option Addr} {rs:List SR} (h:qci w ao n cap rs):n<=cap/\cap<=9223372036854775807:=by
 obtain ⟨qs,-,h2,-⟩:=h
 exact ze h2
theorem sbox {W:World} {b:Nat} {h:SHd} {S:Sp} (hb:W.heap[b]?=some (.cells (sC h S) 31 (0,0))) :
  W.cell? ⟨b,0,none⟩=some (.int .i64 (S.tk:Int))/\W.cell? ⟨b,1,none⟩=some (.int .i64 (S.nt:Int))/\W.cell? ⟨b,2,none⟩=some (.int .i64 (S.st:Int))/\W.cell? ⟨b,3,none⟩=some (.int .i64 S.ex)/\W.cell? ⟨b,4,none⟩=some (.slice h.na S.nm.length h.nc)/\W.cell? ⟨b,5,none⟩=some (.slice h.la S.lv.length h.lc)/\W.cell? ⟨b,6,none⟩=some (.slice h.aa S.az.length h.ac)/\W.cell? ⟨b,7,none⟩=some (.slice h.ra S.rs.length h.rc) :=
 ⟨by rw [qe hb];rfl,by rw [qe hb];rfl,by rw [qe hb];rfl,by rw [qe hb];rfl,by rw [qe hb];rfl,by rw [qe hb];rfl,by rw [qe hb];rfl,by rw [qe hb];rfl⟩
structure Mrk (W:World) (base mb fb:Nat) (va:Option Addr) (vc:Nat) (fd:List Bool) (fr:List Nat):Prop where
 box:W.heap[mb]?=some (.cells #[.slice (some ⟨fb,0,none⟩) fd.length fd.length,.slice va fr.length vc] 98 (0,0))
 fnd:W.ownsRow base 4 1 (.slice (some ⟨fb,0,none⟩) fd.length fd.length) fd.length (booC fd)
 frs:W.ownsRow base 3 1 (.slice va fr.length vc) fr.length (natC fr)
 new:base<=mb
def blk (va:Option Addr):Option Nat:=match va with | some a=>some a.block | none=>none
def MF (mb fb:Nat) (va:Option Addr) (k:Nat):Prop:=k=mb\/k=fb\/blk va=some k
def MMv (W:World) (mb fb:Nat) (va:Option Addr) (W':World) (va':Option Addr):Prop:=Kept (MF mb fb va) W W'/\∀ k,blk va'=some k->blk va=some k\/W.heap.size<=k
theorem zi {va:Option Addr} {n c k:Nat} (h:(Value.slice va n c).ownBlock=some k):blk va=some k:=by
 cases va with
 | none=>cases h
 | some a=>exact h
theorem MMv.refl (W:World) (mb fb:Nat) (va:Option Addr):MMv W mb fb va W va:=⟨Kept.refl _ _,fun _ h=>.inl h⟩
theorem qdd (fd:List Bool) (x:Nat) (b:Bool):booC (fd.set x b)=(booC fd).set x (.bool b):=by unfold booC;rw [List.map_set]
theorem Mrk.add {W:World} {base mb fb vc x:Nat} {va:Option Addr} {fd:List Bool} {fr:List Nat} (h:Mrk W base mb fb va vc fd fr) (hB:base<=W.heap.size) (hn:fr.length<10000) :
  ∃ g c W',(Builtin.append_ #[26,26] 26 #[.slice va fr.length vc,.slice (some ⟨W.heap.size,0,none⟩) 1 1]).run Tryz.prog ((W.setCell ⟨fb,x,none⟩ (.bool true)).alloc (.cells #[.int .i64 (x:Int)] 3))=.ok (.slice (some ⟨g,0,none⟩) (fr.length+1) c) W' /\
   W'.heap[mb]?=some (.cells #[.slice (some ⟨fb,0,none⟩) fd.length fd.length,.slice va fr.length vc] 98 (0,0)) /\
   Mrk (W'.setCell ⟨mb,1,none⟩ (.slice (some ⟨g,0,none⟩) (fr.length+1) c)) base mb fb (some ⟨g,0,none⟩) c (fd.set x true) (fr++[x])/\MMv W mb fb va (W'.setCell ⟨mb,1,none⟩ (.slice (some ⟨g,0,none⟩) (fr.length+1) c)) (some ⟨g,0,none⟩):=by
 have hl70:Loc W mb 98:=⟨_,h.box⟩
 have hl4:Loc W fb 4:=qx h.fnd rfl
 have hne:mb≠fb:=qr hl70 hl4 (by decide)
 have s1:=(h.fnd.stored x (.bool true)).1
 have hsz:(W.setCell ⟨fb,x,none⟩ (.bool true)).heap.size=W.heap.size:=by simp [World.setCell]
 have s2:(W.setCell ⟨fb,x,none⟩ (.bool true)).ownsRow base 3 1 (.slice va fr.length vc) fr.length (natC fr):=qh h.frs (fun i hi=>Below.heap_setCell _ _ _ _ (qr (qx h.frs hi) hl4 (by decide)))
 have s3:(W.setCell ⟨fb,x,none⟩ (.bool true)).heap[mb]?=some (.cells #[.slice (some ⟨fb,0,none⟩) fd.length fd.length,.slice va fr.length vc] 98 (0,0)):=by rw [Below.heap_setCell _ _ _ _ hne];exact h.box
 have k1:Kept (MF mb fb va) W (W.setCell ⟨fb,x,none⟩ (.bool true)):=(Kept.refl _ _).setCell _ _ (fun _=>.inr (.inl rfl))
 generalize W.setCell ⟨fb,x,none⟩ (.bool true)=V at *
 obtain ⟨g,c,W',hr,ho,hk,hg⟩:=jc (us:=[.int .i64 (x:Int)]) u29 i3 rfl (by decide) (by decide) rfl (fun u hu=>by rw [List.mem_singleton] at hu;subst hu;rfl) s2 (by omega) (by omega)
 rw [hsz] at hr
 have hltm:mb<V.heap.size:=(Array.getElem?_eq_some_iff.1 s3).1
 have hltf:fb<V.heap.size:=(World.ownsRow.lt s1 fb rfl).2
 have hva:∀ k,(Value.slice va fr.length vc).ownBlock=some k->Loc V k 3:=fun k hk=>qx s2 hk
 have hl4V:Loc V fb 4:=qx s1 rfl
 have t1:W'.heap[mb]?=some (.cells #[.slice (some ⟨fb,0,none⟩) fd.length fd.length,.slice va fr.length vc] 98 (0,0)):=by
  rw [hk.block mb (by rw [qt];omega) (fun e=>qr ⟨_,s3⟩ (hva _ e) (by decide) rfl),Below.heap_alloc _ _ _ hltm]
  exact s3
 have t2:W'.ownsRow base 4 1 (.slice (some ⟨fb,0,none⟩) fd.length fd.length) fd.length ((booC fd).set x (.bool true)) :=
  qh s1 (fun i hi=>by
   cases hi
   rw [hk.block fb (by rw [qt];omega) (fun e=>qr hl4V (hva _ e) (by decide) rfl),Below.heap_alloc _ _ _ hltf])
 have hgt:g≠mb:=fun e=>qr (qx ho rfl) ⟨_,t1⟩ (by decide) e
 refine ⟨g,c,W',hr,t1,⟨?_,?_,?_,h.new⟩,?_,?_⟩
 ·rw [setCell_eq_setRow W' mb 1 _ 98 (0,0) _ t1,List.length_set,List.length_append]
  exact setRow_heap _ _ _ _ 98 _ t1
 ·rw [qdd,List.length_set]
  exact qh t2 (fun i hi=>by
   cases hi
   exact Below.heap_setCell _ _ _ _ (Ne.symm hne))
 ·rw [jf,List.length_append]
  exact qh ho (fun i hi=>by
   cases hi
   exact Below.heap_setCell _ _ _ _ hgt)
 ·refine Kept.setCell ?_ _ _ (fun _=>.inl rfl)
  refine (k1.alloc _).trans hk (fun i _ e=>.inr (.inr (zi e)))
 ·intro k e
  cases e
  rcases hg with h1 | h1
  ·exact .inl (zi h1)
  ·exact .inr (by simp only;omega)
theorem j7 (W:World) (base mb fb vc n x:Nat) (va:Option Addr) (fd:List Bool) (fr:List Nat) (h:Mrk W base mb fb va vc fd fr) (hm:MK n fd fr) (hx:x<n) (hn:n<=1000) (hB:base<=W.heap.size) :
  Calls Tryz.prog 68 #[.pointer (some ⟨mb,0,none⟩),.int .i64 x] W fun e W'=>e=.returned (.tuple #[])/\∃ va' vc',Mrk W' base mb fb va' vc' (mkd fd fr x).1 (mkd fd fr x).2/\MMv W mb fb va W' va':=by
 have hfl:fd.length=n:=hm.len
 have hrl:fr.length<=n:=hm.le
 have b0:W.cell? ⟨mb,0,none⟩=some (.slice (some ⟨fb,0,none⟩) fd.length fd.length):=by rw [qe h.box];rfl
 have c0:W.cell? ⟨fb,x,none⟩=some (.bool (isF fd x)):=by
  rw [h.fnd.cellAt x (by omega)]
  unfold booC
  rw [List.getElem?_map,vm (by omega)]
  rfl
 have hbl:=z8 h.frs
 rw [hfl] at b0
 have hx':(x:Int)<(n:Int):=by omega
 cases hf:isF fd x
 ·obtain ⟨g,c,W',hr,t1,hM,hK⟩:=h.add (x:=x) hB (by omega)
  have HF:Hid (Mrk (W'.setCell ⟨mb,1,none⟩ (.slice (some ⟨g,0,none⟩) (fr.length+1) c)) base mb fb (some ⟨g,0,none⟩) c (mkd fd fr x).1 (mkd fd fr x).2/\MMv W mb fb va (W'.setCell ⟨mb,1,none⟩ (.slice (some ⟨g,0,none⟩) (fr.length+1) c)) (some ⟨g,0,none⟩)):=by
   unfold mkd
   rw [hf]
   exact ⟨hM,hK⟩
  have f0:W.frozen? ⟨fb,x,none⟩=false:=h.fnd.frozenAt x
  have hne:mb≠fb:=qr ⟨_,h.box⟩ (qx h.fnd rfl) (by decide)
  have b1:(W.setCell ⟨fb,x,none⟩ (.bool true)).cell? ⟨mb,1,none⟩=some (.slice va fr.length vc):=by
   refine qz ?_ hne
   rw [qe h.box];rfl
  have d1:W'.cell? ⟨mb,1,none⟩=some (.slice va fr.length vc):=by rw [qe t1];rfl
  have f1:W'.frozen? ⟨mb,1,none⟩=false:=qi t1 1
  rw [hf] at c0
  generalize fr.length=m at *
  clear h hm hM hK t1 hf hfl
  go_enter Tryz.func68,Tryz.ntmps68
  go_wp2_with (at_builtin;refine Lib.wpList_append_run _ rfl _ _ _ _ rfl _ _ rfl rfl _ _ hr ?_)
  go_end0
  exact ⟨rfl,_,_,HF.out⟩
 ·have HF:Hid (Mrk W base mb fb va vc (mkd fd fr x).1 (mkd fd fr x).2):=by
   unfold mkd
   rw [hf]
   exact h
  rw [hf] at c0
  clear h hm hf hfl
  go_enter Tryz.func68,Tryz.ntmps68
  go_wp2_with fail
  go_end0
  exact ⟨rfl,_,_,HF.out,MMv.refl _ _ _ _⟩
end Go.Proofs.YtngclmglmhiljaaGreatDoor
