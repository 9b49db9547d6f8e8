/- Texts that the proofs of the First statements stand on, part Own11. -/
import Derived.Deep.RegionHeld
import Derived.Test.YtngclmglmhiljaaGreatDoorOwn10
set_option maxHeartbeats 16000000
set_option maxRecDepth 100000
namespace Go.Proofs.YtngclmglmhiljaaGreatDoor
open Go.RowKit
theorem qlj (G:Gm) (h:Hd) (w:World) (hG:IsG w h G) (q:Bool) (hq:q=true↔kz G):Calls Tryz.prog 29 #[gv h G] w fun e w'=>e=.returned (.bool q)/\Below w.heap.size w w':=by
 have hs1:G.ts.length<=100:=hG.small.nt
 have hs2:G.rs.length<=200:=hG.small.nr
 have hm2:=kj hG.rul
 have HG:Hid (IsG w h G):=hG
 have HQ:Hid (q=true↔kz G):=hq
 clear hG hq
 have HLF:Hid (∀ V,Below w.heap.size w V->Calls Tryz.prog 31 #[gv h G] V fun e w'=>∃ ao c,e=.returned (.slice ao (lfs G.rs).length c)/\Below w.heap.size w w'):=fun V hV=>(qb9 G h V (HG.out.below hV)).mono (fun e w' ⟨ao,c,he,_,hb⟩=>⟨ao,c,he,qd hV hb⟩)
 obtain ⟨ta,tc,ra,rc⟩:=h
 unfold gv at HLF ⊢
 simp only at hm2 HLF ⊢
 have hm1:G.ts.length<=tc/\tc<=9223372036854775807:=by have h1:=HG.out.tok.le;have h2:=HG.out.tok.max;simp only at h1 h2;unfold maxLen at h2;omega
 have hv:Below w.heap.size w (w.alloc (.cells #[.slice ta G.ts.length tc,.string G.s,.int .i64 G.e,.slice ra G.rs.length rc] 25)):=qb _ _
 have hx:(w.alloc (.cells #[.slice ta G.ts.length tc,.string G.s,.int .i64 G.e,.slice ra G.rs.length rc] 25)).heap[w.heap.size]?=some (.cells #[.slice ta G.ts.length tc,.string G.s,.int .i64 G.e,.slice ra G.rs.length rc] 25 (0,0)):=heap_alloc_new _ _
 obtain ⟨tn,HTN⟩:∃ tn,Hid (G.ts.length=tn):=⟨_,rfl⟩
 obtain ⟨rn,HRN⟩:∃ rn,Hid (G.rs.length=rn):=⟨_,rfl⟩
 obtain ⟨m,HM⟩:∃ m,Hid ((lfs G.rs).length=m):=⟨_,rfl⟩
 rw [HTN.out] at hs1 hm1 hv hx HLF ⊢
 rw [HRN.out] at hs2 hm2 hv hx HLF ⊢
 rw [HM.out] at HLF
 go_enter Tryz.func29,Tryz.ntmps29
 go_upto_region 1 with fail
 generalize w.alloc (.cells #[.slice ta tn tc,.string G.s,.int .i64 G.e,.slice ra rn rc] 25)=W1 at hv hx ⊢
 obtain ⟨gb,HGB⟩:∃ gb,Hid (gb=w.heap.size):=⟨_,rfl⟩
 rw [<-HGB.out] at hx ⊢
 obtain ⟨p0,p1,p2,p3⟩:=box4 hx
 have H1:Hid (Below w.heap.size w W1):=hv
 clear hx hv HGB
 go_wp2
 go_loop [3] (fun v=>∃ i:Nat,i<=rn/\v=.int .i64 i/\Hid (∀ (j:Nat) (r:Ru),j<i->G.rs[j]?=some r->r.r.length<=6)) (fun v=>rn - (intOf v).toNat)
 case atStart=>exact ⟨0,Nat.zero_le _,rfl,(fun j u h=>absurd h (Nat.not_lt_zero _):∀ (j:Nat) (r:Ru),j<0->G.rs[j]?=some r->r.r.length<=6)⟩
 case round =>
  obtain ⟨i,hi,rfl,J⟩:=hrel
  by_cases hlt:i<rn
  ·have hlt':(i:Int)<(rn:Int):=by omega
   obtain ⟨r,hr⟩:∃ r,G.rs[i]?=some r:=⟨G.rs[i]'(by rw [HRN.out];exact hlt),List.getElem?_eq_getElem _⟩
   obtain ⟨b,o,xa,xc,hra,d0,d1,d2,-⟩:=(HG.out.rul.below H1.out).at hr
   simp only at hra
   subst hra
   have HU:Hid (G.rs[i]?=some r):=hr
   clear hr
   obtain ⟨y,HY⟩:∃ y,Hid (r.r.length=y):=⟨_,rfl⟩
   rw [HY.out] at d1
   by_cases he:6<y
   ·have he':(6:Int)<(y:Int):=by omega
    have HF:Hid (q=true):=HQ.out.2 (.inr (.inr (.inr ⟨r,List.mem_of_getElem? HU.out,by rw [HY.out];exact he⟩)))
    go_wp2
    go_ret
    exact ⟨by rw [HF.out];rfl,H1.out⟩
   ·have he':¬ (6:Int)<(y:Int):=by omega
    have HF:Hid (∀ (j:Nat) (r:Ru),j<i+1->G.rs[j]?=some r->r.r.length<=6):=fun j v hj hv=>by
     rcases Nat.lt_or_ge j i with h | h
     ·exact J.out j v h hv
     ·have:j=i:=by omega
      subst this
      rw [HU.out] at hv
      cases hv
      rw [HY.out]
      omega
    go_wp2
    go_round
    case rel=>exact ⟨i+1,by omega,by simp,HF⟩
    case measure=>simp [intOf];omega
  ·have hlt':¬ (i:Int)<(rn:Int):=by omega
   have HF:Hid (q=true↔12<tn\/30<rn\/10<m):=by
    refine HQ.out.trans ?_
    unfold kz
    rw [HTN.out,HRN.out,HM.out]
    constructor
    ·rintro (h | h | h | ⟨r,hr,h⟩)
     ·exact .inl h
     ·exact .inr (.inl h)
     ·exact .inr (.inr h)
     ·obtain ⟨j,hj⟩:=List.getElem?_of_mem hr
      have h1:=(List.getElem?_eq_some_iff.1 hj).1
      rw [HRN.out] at h1
      have:=J.out j r (by omega) hj
      omega
    ·rintro (h | h | h)
     ·exact .inl h
     ·exact .inr (.inl h)
     ·exact .inr (.inr (.inl h))
   clear J
   by_cases h1:12<tn
   ·have h1':(12:Int)<(tn:Int):=by omega
    have HE:Hid (q=true):=HF.out.2 (.inl h1)
    go_wp2_with fail
    go_ret
    exact ⟨by rw [HE.out];rfl,H1.out⟩
   ·have h1':¬ (12:Int)<(tn:Int):=by omega
    by_cases h2:30<rn
    ·have h2':(30:Int)<(rn:Int):=by omega
     have HE:Hid (q=true):=HF.out.2 (.inr (.inl h2))
     go_wp2_with fail
     go_ret
     exact ⟨by rw [HE.out];rfl,H1.out⟩
    ·have h2':¬ (30:Int)<(rn:Int):=by omega
     go_wp2_with fail
     refine (HLF.out _ H1.out).mono ?_
     rintro e W2 ⟨ao,c,rfl,hB⟩
     have HB:Hid (Below w.heap.size w W2):=hB
     have HE:Hid (q=decide ((10:Int)<(m:Int))):=by
      by_cases h3:10<m
      ·rw [HF.out.2 (.inr (.inr h3))]
       exact (decide_eq_true (by omega)).symm
      ·rw [decide_eq_false (by omega)]
       exact zb HF.out (fun e=>by omega)
     go_wp2_with fail
     go_ret
     exact ⟨by rw [HE.out];rfl,HB.out⟩
theorem qka (G:Gm) (h:Hd) (w:World) (hG:IsG w h G) (q:Bool) (hq:q=true↔NmP G):Calls Tryz.prog 30 #[gv h G] w fun e w'=>e=.returned (.bool q)/\Below w.heap.size w w':=by
 have hs1:G.ts.length<=100:=hG.small.nt
 have hs2:G.rs.length<=200:=hG.small.nr
 have hm2:=kj hG.rul
 have HG:Hid (IsG w h G):=hG
 have HQ:Hid (q=true↔(G.rs≠[]/\(¬ ∃ x∈tkG G,x∈lfs G.rs)/\(∀ r∈G.rs,NmR G r)/\kc G∈lfs G.rs)):=hq.trans ql9
 clear hG hq
 obtain ⟨m,HM⟩:∃ m,Hid ((lfs G.rs).length=m):=⟨_,rfl⟩
 have hm9:m<=200:=by have:=j9 G.rs;have:=HM.out;omega
 have HLF:Hid (∀ V,Below w.heap.size w V->Calls Tryz.prog 31 #[gv h G] V fun e w'=>∃ ao c,e=.returned (.slice ao m c)/\Row w' 1 ao m c (strC (lfs G.rs))/\Below V.heap.size V w'):=fun V hV=>by
  have:=qb9 G h V (HG.out.below hV)
  rw [HM.out] at this
  exact this.mono (fun e w' ⟨ao,c,he,ho,hb⟩=>⟨ao,c,he,Row.of_own ho,hb⟩)
 have HPL:Hid (∀ (V:World) (ao:Option Addr) (c:Nat) (x:ByteArray),Row V 1 ao m c (strC (lfs G.rs))->Calls Tryz.prog 32 #[.slice ao m c,.string x] V fun e w'=>e=.returned (.int .i64 (idxI (q9 (lfs G.rs) x)))/\w'=V):=fun V ao c x hr=>by
  have:=qa2 (lfs G.rs) ao c x V (by rw [HM.out];exact hr) (by rw [HM.out];omega)
  rw [HM.out] at this
  exact this
 have HTK:Hid (∀ (V:World) (x:ByteArray),Below w.heap.size w V->Calls Tryz.prog 54 #[gv h G,.string x] V fun e w'=>e=.returned (.int .i64 (idxI (q9 (tkG G) x)))/\Below V.heap.size V w'):=fun V x hV=>qgq G h V (HG.out.below hV) x
 have HIN:Hid (∀ (l:List ByteArray) (x:ByteArray),0<=idxI (q9 l x)↔x∈l):=fun l x=>(qa3 _).trans jz
 obtain ⟨ta,tc,ra,rc⟩:=h
 unfold gv at HLF HTK ⊢
 simp only at hm2 HLF HTK ⊢
 have hm1:G.ts.length<=tc/\tc<=9223372036854775807:=by have h1:=HG.out.tok.le;have h2:=HG.out.tok.max;simp only at h1 h2;unfold maxLen at h2;omega
 have hv:Below w.heap.size w (w.alloc (.cells #[.slice ta G.ts.length tc,.string G.s,.int .i64 G.e,.slice ra G.rs.length rc] 25)):=qb _ _
 have hx:(w.alloc (.cells #[.slice ta G.ts.length tc,.string G.s,.int .i64 G.e,.slice ra G.rs.length rc] 25)).heap[w.heap.size]?=some (.cells #[.slice ta G.ts.length tc,.string G.s,.int .i64 G.e,.slice ra G.rs.length rc] 25 (0,0)):=heap_alloc_new _ _
 obtain ⟨tn,HTN⟩:∃ tn,Hid (G.ts.length=tn):=⟨_,rfl⟩
 obtain ⟨rn,HRN⟩:∃ rn,Hid (G.rs.length=rn):=⟨_,rfl⟩
 rw [HTN.out] at hs1 hm1 hv hx HLF HTK ⊢
 rw [HRN.out] at hs2 hm2 hv hx HLF HTK ⊢
 go_enter Tryz.func30,Tryz.ntmps30
 go_upto_region 1 with fail
 generalize w.alloc (.cells #[.slice ta tn tc,.string G.s,.int .i64 G.e,.slice ra rn rc] 25)=W1 at hv hx ⊢
 obtain ⟨gb,HGB⟩:∃ gb,Hid (gb=w.heap.size):=⟨_,rfl⟩
 rw [<-HGB.out] at hx ⊢
 have HB1:Hid (∀ V:World,Below W1.heap.size W1 V->Below w.heap.size w V/\V.cell? ⟨gb,0,none⟩=some (.slice ta tn tc)/\V.cell? ⟨gb,1,none⟩=some (.string G.s)/\V.cell? ⟨gb,2,none⟩=some (.int .i64 G.e)/\V.cell? ⟨gb,3,none⟩=some (.slice ra rn rc)):=fun V hV=>⟨qd hv hV,box4 (qf hV hx)⟩
 obtain ⟨p0,p1,p2,p3⟩:=box4 hx
 have H1:Hid (Below w.heap.size w W1):=hv
 clear hx hv HGB
 go_wp2_with fail
 refine (HLF.out _ H1.out).mono ?_
 rintro e W2 ⟨ao,c,rfl,hrow,hB2⟩
 have H2:Hid (Below W1.heap.size W1 W2/\Row W2 1 ao m c (strC (lfs G.rs))):=⟨hB2,hrow⟩
 have hml:=ze hrow
 clear p0 p1 p2 p3 HLF H1 hB2 hrow
 obtain ⟨-,p0,p1,p2,p3⟩:=HB1.out W2 H2.out.1
 go_wp2_with fail
 go_loopg [4] tn (fun kx s4 wr=>∃ k:Nat,s4=.int .i64 k/\k<=tn/\tn - k<=kx/\Hid (wr=W2/\∀ (i:Nat) (t:Tk),i<k->G.ts[i]?=some t->t.n ∉ lfs G.rs))
 case atStart=>exact ⟨0,rfl,Nat.zero_le _,by omega,(⟨rfl,fun i r hi=>absurd hi (Nat.not_lt_zero _)⟩:W2=W2/\∀ (i:Nat) (t:Tk),i<0->G.ts[i]?=some t->t.n ∉ lfs G.rs)⟩
 case round =>
  obtain ⟨k,rfl,hk,hg,J⟩:=hrel
  obtain ⟨hwr,hJ⟩:=J.out
  subst hwr
  have HJ:Hid (∀ (i:Nat) (t:Tk),i<k->G.ts[i]?=some t->t.n ∉ lfs G.rs):=hJ
  clear J hJ
  by_cases hlt:k<tn
  ·have hlt':(k:Int)<(tn:Int):=by omega
   obtain ⟨t,ht⟩:∃ t,G.ts[k]?=some t:=⟨G.ts[k]'(by rw [HTN.out];exact hlt),List.getElem?_eq_getElem _⟩
   obtain ⟨b,o,hta,d0,-,-⟩:=ja (HG.out.tok.below (HB1.out wr H2.out.1).1) ht
   simp only at hta
   subst hta
   have HT:Hid (G.ts[k]?=some t):=ht
   clear ht
   have HPC:=HPL.out wr ao c t.n H2.out.2
   have HZ:=HIN.out (lfs G.rs) t.n
   generalize idxI (q9 (lfs G.rs) t.n)=z at HPC HZ
   have HPC':Hid (Calls Tryz.prog 32 #[.slice ao m c,.string t.n] wr fun e w'=>e=.returned (.int .i64 z)/\w'=wr):=HPC
   have HZ':Hid (0<=z↔t.n∈lfs G.rs):=HZ
   clear HPC HZ
   go_wp2_with fail
   refine HPC'.out.mono ?_
   rintro e wq ⟨rfl,rfl⟩
   by_cases hz:0<=z
   ·have HF:Hid (q=false):=zb HQ.out (fun e=>e.2.1 ⟨t.n,by unfold tkG;exact List.mem_map.2 ⟨t,List.mem_of_getElem? HT.out,rfl⟩,HZ'.out.1 hz⟩)
    go_wp2_with fail
    go_ret
    exact ⟨by rw [HF.out];rfl,(HB1.out _ H2.out.1).1⟩
   ·have HF:Hid (∀ (i:Nat) (t:Tk),i<k+1->G.ts[i]?=some t->t.n ∉ lfs G.rs):=fun i u hi hu=>by
     rcases Nat.lt_or_ge i k with h1 | h1
     ·exact HJ.out i u h1 hu
     ·have:i=k:=by omega
      subst this
      rw [HT.out] at hu
      cases hu
      exact fun e=>hz (HZ'.out.2 e)
    go_wp2_with fail
    go_roundg (tn - (k+1))
    case measure=>omega
    case rel=>exact ⟨k+1,by simp,by omega,Nat.le_refl _,(⟨rfl,HF.out⟩:wq=wq/\∀ (i:Nat) (t:Tk),i<k+1->G.ts[i]?=some t->t.n ∉ lfs G.rs)⟩
  ·have hlt':¬ (k:Int)<(tn:Int):=by omega
   have HT:Hid (¬ ∃ x∈tkG G,x∈lfs G.rs):=by
    rintro ⟨x,hx,hl⟩
    unfold tkG at hx
    obtain ⟨t,ht,rfl⟩:=List.mem_map.1 hx
    obtain ⟨i,hi⟩:=List.getElem?_of_mem ht
    exact HJ.out i t (by have:=(List.getElem?_eq_some_iff.1 hi).1;rw [HTN.out] at this;omega) hi hl
   clear HJ hk hg hlt p0 p1 p2 p3
   obtain ⟨W3,hW3⟩:∃ W3,W3=wr:=⟨_,rfl⟩
   subst wr
   obtain ⟨-,p0,p1,p2,p3⟩:=HB1.out W3 H2.out.1
   go_wp2_with fail
   clear p0 p1 p2 p3
   go_loopg [5] rn (fun kx s5 wr=>∃ k:Nat,s5=.int .i64 k/\k<=rn/\rn - k<=kx/\Hid (Below W3.heap.size W3 wr/\∀ (i:Nat) (r:Ru),i<k->G.rs[i]?=some r->NmR G r))
   case atStart=>exact ⟨0,rfl,Nat.zero_le _,by omega,(⟨Below.refl _ _,fun i r hi=>absurd hi (Nat.not_lt_zero _)⟩:Below W3.heap.size W3 W3/\∀ (i:Nat) (r:Ru),i<0->G.rs[i]?=some r->NmR G r)⟩
   case round =>
    obtain ⟨k,rfl,hk,hg,J⟩:=hrel
    obtain ⟨-,p0,p1,p2,p3⟩:=HB1.out wr (qd H2.out.1 J.out.1)
    by_cases hlt:k<rn
    ·have hlt':(k:Int)<(rn:Int):=by omega
     obtain ⟨r,hr⟩:∃ r,G.rs[k]?=some r:=⟨G.rs[k]'(by rw [HRN.out];exact hlt),List.getElem?_eq_getElem _⟩
     obtain ⟨bb,o,ya,yc,hra,d0,d1,d2,hrow⟩:=(HG.out.rul.below (HB1.out wr (qd H2.out.1 J.out.1)).1).at hr
     simp only at hra
     subst hra
     have hrl:r.r.length<=100:=(HG.out.small.rl r (List.mem_of_getElem? hr)).2.2.1
     have hyl:=ze hrow
     have hv:Below wr.heap.size wr (wr.alloc (.cells #[.string r.l,.slice ya r.r.length yc,.string r.p] 55)):=qb _ _
     have HV:Hid (Below W3.heap.size W3 (wr.alloc (.cells #[.string r.l,.slice ya r.r.length yc,.string r.p] 55))/\(wr.alloc (.cells #[.string r.l,.slice ya r.r.length yc,.string r.p] 55)).heap[wr.heap.size]?=some (.cells #[.string r.l,.slice ya r.r.length yc,.string r.p] 55 (0,0))/\Row (wr.alloc (.cells #[.string r.l,.slice ya r.r.length yc,.string r.p] 55)) 1 ya r.r.length yc (strC r.r)/\G.rs[k]?=some r/\∀ (i:Nat) (r:Ru),i<k->G.rs[i]?=some r->NmR G r):=⟨qd J.out.1 hv,heap_alloc_new _ _,hrow.below hv,hr,J.out.2⟩
     clear J hr hv hrow
     obtain ⟨rl,HRL⟩:∃ rl,Hid (r.r.length=rl):=⟨_,rfl⟩
     rw [HRL.out] at HV d1 hrl hyl
     go_upto_region 11 with fail
     obtain ⟨b6,HB6⟩:∃ b6,Hid (b6=wr.heap.size):=⟨_,rfl⟩
     rw [<-HB6.out] at HV ⊢
     generalize wr.alloc (.cells #[.string r.l,.slice ya rl yc,.string r.p] 55)=V at HV ⊢
     clear HB6 d0 d1 d2 p0 p1 p2 p3
     have q1:V.cell? ⟨b6,1,none⟩=some (.slice ya rl yc):=by rw [qe HV.out.2.1];rfl
     clear q1
     go_wp2_with fail
     go_loopg [7] rl (fun kx s7 wr=>∃ k2:Nat,s7=.int .i64 k2/\k2<=rl/\rl - k2<=kx/\Hid (Below V.heap.size V wr/\∀ (i:Nat) (x:ByteArray),i<k2->r.r[i]?=some x->x∈tkG G\/x∈lfs G.rs))
     case atStart=>exact ⟨0,rfl,Nat.zero_le _,by omega,(⟨Below.refl _ _,fun i x hi=>absurd hi (Nat.not_lt_zero _)⟩:Below V.heap.size V V/\∀ (i:Nat) (x:ByteArray),i<0->r.r[i]?=some x->x∈tkG G\/x∈lfs G.rs)⟩
     case round =>
      obtain ⟨k2,rfl,hk2,hg2,K⟩:=hrel
      obtain ⟨V3,hV3⟩:∃ V3,V3=wr:=⟨_,rfl⟩
      subst wr
      have q1:V3.cell? ⟨b6,1,none⟩=some (.slice ya rl yc):=by rw [qe (qf K.out.1 HV.out.2.1)];rfl
      have q2:V3.cell? ⟨b6,2,none⟩=some (.string r.p):=by rw [qe (qf K.out.1 HV.out.2.1)];rfl
      have HW3:Hid (Below W1.heap.size W1 V3/\Row V3 1 ao m c (strC (lfs G.rs))):=⟨qd H2.out.1 (qd HV.out.1 K.out.1),H2.out.2.below (qd HV.out.1 K.out.1)⟩
      obtain ⟨-,p0,p1,p2,p3⟩:=HB1.out V3 HW3.out.1
      by_cases hlt2:k2<rl
      ·have hlt2':(k2:Int)<(rl:Int):=by omega
       obtain ⟨x,hx⟩:∃ x,r.r[k2]?=some x:=⟨r.r[k2]'(by rw [HRL.out];exact hlt2),List.getElem?_eq_getElem _⟩
       obtain ⟨b9,o9,hya,q0⟩:=jm (HV.out.2.2.1.below K.out.1) hx
       subst hya
       have HX:Hid (r.r[k2]?=some x):=hx
       clear hx
       have HPC:=HPL.out
       have HTC:=HTK.out
       have HZ1:=HIN.out (lfs G.rs) x
       have HZ2:=HIN.out (tkG G) x
       obtain ⟨z1,hz1⟩:∃ z1,idxI (q9 (lfs G.rs) x)=z1:=⟨_,rfl⟩
       obtain ⟨z2,hz2⟩:∃ z2,idxI (q9 (tkG G) x)=z2:=⟨_,rfl⟩
       have HP1:Hid (∀ V:World,Row V 1 ao m c (strC (lfs G.rs))->Calls Tryz.prog 32 #[.slice ao m c,.string x] V fun e w'=>e=.returned (.int .i64 z1)/\w'=V):=fun V hV=>by
        have:=HPC V ao c x hV
        rw [hz1] at this
        exact this
       have HT1:Hid (∀ V:World,Below w.heap.size w V->Calls Tryz.prog 54 #[.agg #[.slice ta tn tc,.string G.s,.int .i64 G.e,.slice (some ⟨bb,o,none⟩) rn rc],.string x] V fun e w'=>e=.returned (.int .i64 z2)/\Below V.heap.size V w'):=fun V hV=>by
        have:=HTC V x hV
        rw [hz2] at this
        exact this
       rw [hz1] at HZ1
       rw [hz2] at HZ2
       have HZ:Hid ((0<=z1↔x∈lfs G.rs)/\(0<=z2↔x∈tkG G)):=⟨HZ1,HZ2⟩
       clear HPC HTC HZ1 HZ2 hz1 hz2
       obtain ⟨bx,hbx⟩:=zr (¬ (x∈tkG G\/x∈lfs G.rs))
       have HBX:Hid (bx=true↔¬ (x∈tkG G\/x∈lfs G.rs)):=hbx
       clear hbx
       go_upto_region 14 with fail
       go_cut [7,62] from 38 to 62 (fun s7 s62 wd=>s7=.int .i64 (k2:Int)/\s62=.bool bx/\Hid (Below V3.heap.size V3 wd))
       case first =>
        by_cases hz:z1<0
        ·by_cases hy:z2<0
         ·have HF:Hid (bx=true):=HBX.out.2 (fun e=>by
           rcases e with e | e
           ·have:=HZ.out.2.2 e;omega
           ·have:=HZ.out.1.2 e;omega)
          go_region_with (first | (go_at_call 32;refine (HP1.out _ (HW3.out.2.below (qk _))).mono ?_;rintro e V4 ⟨rfl,rfl⟩) | (go_at_call 54;refine (HT1.out _ (HB1.out _ (qd HW3.out.1 (qk _))).1).mono ?_;rintro e V5 ⟨rfl,hB5⟩))
          all_goals
           have HE:Hid (Below V3.heap.size V3 _):=qd (qk V3) hB5
           clear hB5
           go_wp2_with fail
           go_meet
           exact ⟨rfl,by rw [HF.out],HE⟩
         ·have HF:Hid (bx=false):=zb HBX.out (fun e=>e (.inl (HZ.out.2.1 (by omega))))
          go_region_with (first | (go_at_call 32;refine (HP1.out _ (HW3.out.2.below (qk _))).mono ?_;rintro e V4 ⟨rfl,rfl⟩) | (go_at_call 54;refine (HT1.out _ (HB1.out _ (qd HW3.out.1 (qk _))).1).mono ?_;rintro e V5 ⟨rfl,hB5⟩))
          all_goals
           have HE:Hid (Below V3.heap.size V3 _):=qd (qk V3) hB5
           clear hB5
           go_wp2_with fail
           go_meet
           exact ⟨rfl,by rw [HF.out,decide_eq_false (by omega)],HE⟩
        ·have HF:Hid (bx=false):=zb HBX.out (fun e=>e (.inr (HZ.out.1.1 (by omega))))
         have hd:decide (z1<0)=false:=decide_eq_false hz
         clear hz
         have HD:Hid (∀ q,Below V3.heap.size V3 (V3.drewN q)):=fun q=>yh (Below.refl _ _) q
         have mx:=qay
         go_quiet (first | (go_at_call 32;exact Calls.quiet_of_same (HP1.out _ (HW3.out.2.below (HD.out _)))))
         go_wp2_with fail
         go_meet
         exact ⟨rfl,by rw [HF.out],HD.out _⟩
       case rest =>
        obtain ⟨rfl,rfl,HE⟩:=hcut
        obtain ⟨V5,hV5⟩:∃ V5,V5=wc:=⟨_,rfl⟩
        subst wc
        clear q0 q1 q2 p0 p1 p2 p3 HP1 HT1
        cases bx
        ·have HF:Hid (Below V.heap.size V V5/\∀ (i:Nat) (x:ByteArray),i<k2+1->r.r[i]?=some x->x∈tkG G\/x∈lfs G.rs):=⟨qd K.out.1 HE.out,fun i y hi hy=>by
          rcases Nat.lt_or_ge i k2 with h1 | h1
          ·exact K.out.2 i y h1 hy
          ·have:i=k2:=by omega
           subst this
           rw [HX.out] at hy
           cases hy
           rcases Classical.em (x∈tkG G\/x∈lfs G.rs) with h2 | h2
           ·exact h2
           ·have:=HBX.out.2 h2;cases this⟩
         go_wp2_with fail
         go_roundg (rl - (k2+1))
         case measure=>omega
         case rel=>exact ⟨k2+1,by simp,by omega,Nat.le_refl _,HF⟩
        ·have HF:Hid (q=false):=zb HQ.out (fun e=>(HBX.out.1 rfl) ((e.2.2.1 r (List.mem_of_getElem? HV.out.2.2.2.1)).2 x (List.mem_of_getElem? HX.out)))
         go_wp2_with fail
         go_ret
         exact ⟨by rw [HF.out];rfl,(HB1.out _ (qd HW3.out.1 HE.out)).1⟩
      ·have hlt2':¬ (k2:Int)<(rl:Int):=by omega
       have HRR:Hid (∀ x∈r.r,x∈tkG G\/x∈lfs G.rs):=fun x hx=>by
        obtain ⟨j,hj⟩:=List.getElem?_of_mem hx
        exact K.out.2 j x (by have:=(List.getElem?_eq_some_iff.1 hj).1;rw [HRL.out] at this;omega) hj
       have HVV:Hid (Below W3.heap.size W3 V3):=qd HV.out.1 K.out.1
       clear K
       have fin:(r.p=e0\/r.p∈tkG G)->∀ V4,Below V3.heap.size V3 V4->(Below W3.heap.size W3 V4/\∀ (i:Nat) (r:Ru),i<k+1->G.rs[i]?=some r->NmR G r):=fun hp V4 hB=>by
        refine ⟨qd HVV.out hB,fun i u hi hu=>?_⟩
        rcases Nat.lt_or_ge i k with h1 | h1
        ·exact HV.out.2.2.2.2 i u h1 hu
        ·have:i=k:=by omega
         subst this
         rw [HV.out.2.2.2.1] at hu
         cases hu
         exact ⟨hp,HRR.out⟩
       have HFI:Hid ((r.p=e0\/r.p∈tkG G)->∀ V4,Below V3.heap.size V3 V4->(Below W3.heap.size W3 V4/\∀ (i:Nat) (r:Ru),i<k+1->G.rs[i]?=some r->NmR G r)):=fin
       clear fin
       by_cases hp:r.p=e0
       ·have hb0:=(zo r.p).2 hp
        have HF:Hid (Below W3.heap.size W3 V3/\∀ (i:Nat) (r:Ru),i<k+1->G.rs[i]?=some r->NmR G r):=HFI.out (.inl hp) V3 (Below.refl _ _)
        clear hp
        go_wp2_with fail
        go_roundg (rn - (k+1))
        case measure=>omega
        case rel=>exact ⟨k+1,by simp,by omega,Nat.le_refl _,HF⟩
       ·have hb0:(r.p.toList == [])=false:=by
         cases hq:(r.p.toList == [])
         ·rfl
         ·exact absurd ((zo r.p).1 hq) hp
        have HTC:=HTK.out V3 r.p (HB1.out _ HW3.out.1).1
        have HZ2:=HIN.out (tkG G) r.p
        generalize idxI (q9 (tkG G) r.p)=z2 at HTC HZ2
        have HT1:Hid (Calls Tryz.prog 54 #[.agg #[.slice ta tn tc,.string G.s,.int .i64 G.e,.slice (some ⟨bb,o,none⟩) rn rc],.string r.p] V3 fun e w'=>e=.returned (.int .i64 z2)/\Below V3.heap.size V3 w'):=HTC
        have HZ:Hid (0<=z2↔r.p∈tkG G):=HZ2
        have HNP:Hid (¬ r.p=e0):=hp
        clear HTC HZ2 hp
        go_wp2_with fail
        refine HT1.out.mono ?_
        rintro e V4 ⟨rfl,hB4⟩
        have HB4:Hid (Below V3.heap.size V3 V4):=hB4
        clear hB4 q1 q2 p0 p1 p2 p3
        by_cases hz:0<=z2
        ·have HF:Hid (Below W3.heap.size W3 V4/\∀ (i:Nat) (r:Ru),i<k+1->G.rs[i]?=some r->NmR G r):=HFI.out (.inr (HZ.out.1 hz)) V4 HB4.out
         have hz':¬ z2<0:=by omega
         go_wp2_with fail
         go_roundg (rn - (k+1))
         case measure=>omega
         case rel=>exact ⟨k+1,by simp,by omega,Nat.le_refl _,HF⟩
        ·have HF:Hid (q=false):=zb HQ.out (fun e=>by
          rcases (e.2.2.1 r (List.mem_of_getElem? HV.out.2.2.2.1)).1 with h1 | h1
          ·exact HNP.out h1
          ·exact hz (HZ.out.2 h1))
         have hz':z2<0:=by omega
         go_wp2_with fail
         go_ret
         exact ⟨by rw [HF.out];rfl,(HB1.out _ (qd HW3.out.1 HB4.out)).1⟩
    ·have hlt':¬ (k:Int)<(rn:Int):=by omega
     have HALL:Hid (∀ r∈G.rs,NmR G r):=fun r hr=>by
      obtain ⟨i,hi⟩:=List.getElem?_of_mem hr
      exact J.out.2 i r (by have:=(List.getElem?_eq_some_iff.1 hi).1;rw [HRN.out] at this;omega) hi
     have HW3:Hid (Below W1.heap.size W1 wr/\Row wr 1 ao m c (strC (lfs G.rs))):=⟨qd H2.out.1 J.out.1,H2.out.2.below J.out.1⟩
     clear J
     by_cases hr0:rn=0
     ·have hr0':¬ (0:Int)<(rn:Int):=by omega
      have HF:Hid (q=false):=zb HQ.out (fun e=>e.1 (List.eq_nil_of_length_eq_zero (by rw [HRN.out];exact hr0)))
      clear hr0
      go_wp2_with fail
      go_ret
      exact ⟨by rw [HF.out];rfl,(HB1.out _ HW3.out.1).1⟩
     ·have hr0':(0:Int)<(rn:Int):=by omega
      have HNE:Hid (G.rs≠[]):=fun e=>hr0 (by rw [<-HRN.out,e];rfl)
      clear hr0
      by_cases hs:G.s=e0
      ·have hb0:=(zo G.s).2 hs
       have HF:Hid (q=true):=HQ.out.2 ⟨HNE.out,HT.out,HALL.out,by
        unfold kc
        rw [if_pos hs]
        obtain ⟨r,hr⟩:∃ r,G.rs[0]?=some r:=⟨G.rs[0]'(by rw [HRN.out];omega),List.getElem?_eq_getElem _⟩
        rw [hr]
        exact qc1.2 ⟨r,List.mem_of_getElem? hr,rfl⟩⟩
       clear hs
       go_wp2_with fail
       go_ret
       exact ⟨by rw [HF.out];rfl,(HB1.out _ HW3.out.1).1⟩
      ·have hb0:(G.s.toList == [])=false:=by
        cases hq:(G.s.toList == [])
        ·rfl
        ·exact absurd ((zo G.s).1 hq) hs
       have HPC:=HPL.out wr ao c G.s HW3.out.2
       have HZ1:=HIN.out (lfs G.rs) G.s
       generalize idxI (q9 (lfs G.rs) G.s)=z1 at HPC HZ1
       have HP1:Hid (Calls Tryz.prog 32 #[.slice ao m c,.string G.s] wr fun e w'=>e=.returned (.int .i64 z1)/\w'=wr):=HPC
       have HE:Hid (q=true↔0<=z1):=by
        refine HQ.out.trans ?_
        have e:kc G=G.s:=by unfold kc;rw [if_neg hs]
        rw [e]
        constructor
        ·intro h;exact HZ1.2 h.2.2.2
        ·intro h;exact ⟨HNE.out,HT.out,HALL.out,HZ1.1 h⟩
       clear HPC HZ1 hs
       go_wp2_with fail
       refine HP1.out.mono ?_
       rintro e V4 ⟨rfl,rfl⟩
       by_cases hz:0<=z1
       ·have HF:Hid (q=true):=HE.out.2 hz
        go_wp2_with fail
        go_ret
        exact ⟨by rw [HF.out];simp,(HB1.out _ HW3.out.1).1⟩
       ·have HF:Hid (q=false):=zb HE.out hz
        go_wp2_with fail
        go_ret
        exact ⟨by rw [HF.out];simp [hz],(HB1.out _ HW3.out.1).1⟩
structure RP (w W:World) (b1 b2 b3 b4 b5:Nat) (c1 c2 c3:Array Value) (l:Int) (ys:List Nat) (xa:Option Addr) (xc:Nat):Prop where
 x1:W.heap[b1]?=some (.cells c1 25 (0,0))
 o:RO w W b2 b3 b4 b5 c2 c3 l ys xa xc
theorem RP.step {w W W':World} {b1 b2 b3 b4 b5:Nat} {c1 c2 c3:Array Value} {l:Int} {ys:List Nat} {xa:Option Addr} {xc:Nat} (s:RP w W b1 b2 b3 b4 b5 c1 c2 c3 l ys xa xc) (hb:Below W.heap.size W W'):RP w W' b1 b2 b3 b4 b5 c1 c2 c3 l ys xa xc :=
 ⟨qf hb s.x1,s.o.step hb⟩
theorem RP.add {w W:World} {b1 b2 b3 b4 b5:Nat} {c1 c2 c3:Array Value} {l:Int} {ys:List Nat} {xa:Option Addr} {xc:Nat} (t:RP w W b1 b2 b3 b4 b5 c1 c2 c3 l ys xa xc) (y:Nat) (hn:ys.length<1000) :
  ∃ g c W',(Builtin.append_ #[26,26] 26 #[.slice xa ys.length xc,.slice (some ⟨W.heap.size,0,none⟩) 1 1]).run Tryz.prog (W.alloc (.cells #[.int .i64 (y:Int)] 3))=.ok (.slice (some ⟨g,0,none⟩) (ys.length+1) c) W' /\
   W'.cell? ⟨b5,1,none⟩=some (.slice xa ys.length xc)/\W'.frozen? ⟨b5,1,none⟩=false/\RP w (W'.setCell ⟨b5,1,none⟩ (.slice (some ⟨g,0,none⟩) (ys.length+1) c)) b1 b2 b3 b4 b5 c1 c2 c3 l (ys++[y]) (some ⟨g,0,none⟩) c:=by
 have s:=t.o
 obtain ⟨g,c,W',hr,ho,hk,hg⟩:=jc (us:=[.int .i64 (y:Int)]) u29 i3 rfl (by decide) (by decide) rfl (fun u hu=>by rw [List.mem_singleton] at hu;subst hu;rfl) s.own s.bel.size (by omega)
 have hk0:Kept (fun k=>blk xa=some k) W W':=((Kept.refl _ W).alloc _).trans hk (fun k _ e=>zi e)
 have bx:∀ {b T:Nat} {d:Array Value},W.heap[b]?=some (.cells d T (0,0))->T≠3->W'.heap[b]?=some (.cells d T (0,0)):=fun hb hT=>by
  rw [hk0.block _ (Array.getElem?_eq_some_iff.1 hb).1 (fun e=>qr ⟨_,hb⟩ (qw s.own e).2.2 hT rfl)];exact hb
 have y1:=bx t.x1 (by decide)
 have y2:=bx s.x2 (by decide)
 have y3:=bx s.x3 (by decide)
 have y4:=bx s.x4 (by decide)
 have y5:=bx s.x5 (by decide)
 refine ⟨g,c,W',hr,by rw [qe y5];rfl,qi y5 1,?_,?_,?_,?_,?_,?_,?_,s.ne,s.n5⟩
 ·exact (Below.heap_setCell _ _ _ _ (show b1≠b5 from qr ⟨_,y1⟩ ⟨_,y5⟩ (by decide))).trans y1
 ·exact (Below.heap_setCell _ _ _ _ (show b2≠b5 from qr ⟨_,y2⟩ ⟨_,y5⟩ (by decide))).trans y2
 ·exact (Below.heap_setCell _ _ _ _ (show b3≠b5 from qr ⟨_,y3⟩ ⟨_,y5⟩ (by decide))).trans y3
 ·exact (Below.heap_setCell _ _ _ _ s.ne).trans y4
 ·rw [setCell_eq_setRow W' b5 1 _ 47 (0,0) _ y5,setRow_heap _ _ _ _ 47 _ y5,List.length_append]
  rfl
 ·rw [jf,List.length_append]
  exact qh ho (fun i hi=>by
   cases hi
   exact Below.heap_setCell _ _ _ _ (qr (qx ho rfl) ⟨_,y5⟩ (by decide)))
 ·refine (s.bel.trans (hk0.below s.bel.size (fun k hk e=>?_))).setCell (p:=⟨b5,1,none⟩) s.n5 _
  have:=(qw s.own e).1
  omega
theorem qqc (w:World) (o1 o2 o3 o4:Obj):Below w.heap.size w ((((w.alloc o1).alloc o2).alloc o3).alloc o4)/\((((w.alloc o1).alloc o2).alloc o3).alloc o4).heap[w.heap.size]?=some o1/\((((w.alloc o1).alloc o2).alloc o3).alloc o4).heap[w.heap.size+1]?=some o2/\((((w.alloc o1).alloc o2).alloc o3).alloc o4).heap[w.heap.size+1+1]?=some o3/\((((w.alloc o1).alloc o2).alloc o3).alloc o4).heap[w.heap.size+1+1+1]?=some o4/\((((w.alloc o1).alloc o2).alloc o3).alloc o4).heap.size=w.heap.size+1+1+1+1:=by
 obtain ⟨h1,h2,h3,h4,h5⟩:=qh8 w o1 o2 o3
 have hb:=qb ((((w.alloc o1).alloc o2).alloc o3)) o4
 have h6:=heap_alloc_new (((w.alloc o1).alloc o2).alloc o3) o4
 rw [h5] at h6
 exact ⟨qd h1 hb,qf hb h2,qf hb h3,qf hb h4,h6,by rw [qt,h5]⟩
theorem qlk (G:Gm) (hd:Hd) (S:Sp) (h:SHd) (w:World) (hG:IsG w hd G) (hnm:Row w 1 h.na S.nm.length h.nc (strC S.nm)) (htk:S.tk=G.ts.length) (hnl:S.nm=nmG G) (hm:MayP G) (hn:NmP G) (r:Ru) (hr:r∈G.rs) (ya:Option Addr) (yc:Nat) (hrow:Row w 1 ya r.r.length yc (strC r.r)) :
  Calls Tryz.prog 33 #[gv hd G,.agg (sC h S),.agg #[.string r.l,.slice ya r.r.length yc,.string r.p]] w fun e w'=>∃ xa xc,e=.returned (.agg #[.int .i64 (ruG G r).l,.slice xa (ruG G r).r.length xc,.int .i64 (ruG G r).lv,.int .i64 (ruG G r).a])/\w'.ownsRow w.heap.size 3 1 (.slice xa (ruG G r).r.length xc) (ruG G r).r.length (natC (ruG G r).r)/\Below w.heap.size w w':=by
 have hs1:G.ts.length<=100:=hG.small.nt
 have hs2:G.rs.length<=200:=hG.small.nr
 have hrl:r.r.length<=20:=(hm.rl r hr).2.1
 have hyl:=ze hrow
 have hqs:=ze hnm
 have hnl2:(nmG G).length<=400:=by rw [jj];have:=j9 G.rs;omega
 have HG:Hid (IsG w hd G/\MayP G/\NmP G/\r∈G.rs/\Row w 1 ya r.r.length yc (strC r.r)):=⟨hG,hm,hn,hr,hrow⟩
 have HIX:Hid (∀ (V:World) (s:ByteArray),Below w.heap.size w V->Calls Tryz.prog 32 #[.slice h.na S.nm.length h.nc,.string s] V fun e w'=>e=.returned (.int .i64 (idxI (q9 (nmG G) s)))/\w'=V):=fun V s hV=>by
  have h1:=hnm.below hV
  rw [hnl] at h1 ⊢
  exact qa2 (nmG G) h.na h.nc s V h1 (by omega)
 have HTK:Hid (∀ (V:World),Below w.heap.size w V->Calls Tryz.prog 54 #[gv hd G,.string r.p] V fun e w'=>e=.returned (.int .i64 (idxI (q9 (tkG G) r.p)))/\Below V.heap.size V w'):=fun V hV=>qgq G hd V (hG.below hV) r.p
 have hnl3:S.nm.length<=400:=by rw [hnl];exact hnl2
 clear hG hm hn hr hrow hnm hnl hnl2
 obtain ⟨ta,tc,ra,rc⟩:=hd
 unfold gv at HTK ⊢
 simp only at HTK ⊢
 have hm1:G.ts.length<=tc/\tc<=9223372036854775807:=by have h1:=HG.out.1.tok.le;have h2:=HG.out.1.tok.max;simp only at h1 h2;unfold maxLen at h2;omega
 have HN4:=qqc w (.cells #[.slice ta G.ts.length tc,.string G.s,.int .i64 G.e,.slice ra G.rs.length rc] 25) (.cells (sC h S) 31) (.cells #[.string r.l,.slice ya r.r.length yc,.string r.p] 55) (.cells #[.int .i64 0,.slice none 0 0,.int .i64 0,.int .i64 0] 47)
 obtain ⟨tn,HTN⟩:∃ tn,Hid (G.ts.length=tn):=⟨_,rfl⟩
 obtain ⟨rn,HRN⟩:∃ rn,Hid (G.rs.length=rn):=⟨_,rfl⟩
 obtain ⟨nl,HNL⟩:∃ nl,Hid (S.nm.length=nl):=⟨_,rfl⟩
 obtain ⟨rl,HRL⟩:∃ rl,Hid (r.r.length=rl):=⟨_,rfl⟩
 unfold sC at HN4 ⊢
 rw [htk] at HN4 ⊢
 rw [HTN.out] at hs1 hm1 HTK HN4 ⊢
 rw [HRN.out] at hs2 HTK HN4 ⊢
 rw [HNL.out] at HIX hqs hnl3 HN4 ⊢
 rw [HRL.out] at hrl hyl HN4 ⊢
 generalize S.lv.length=lvn at *
 generalize S.az.length=azn at *
 generalize S.rs.length=sn at *
 clear htk
 go_enter Tryz.func33,Tryz.ntmps33
 go_upto_region 1 with fail
 obtain ⟨W1,hW1⟩:∃ W1,W1=((((w.alloc (.cells #[.slice ta tn tc,.string G.s,.int .i64 G.e,.slice ra rn rc] 25)).alloc (.cells #[.int .i64 (tn:Int),.int .i64 (S.nt:Int),.int .i64 (S.st:Int),.int .i64 S.ex,.slice h.na nl h.nc,.slice h.la lvn h.lc,.slice h.aa azn h.ac,.slice h.ra sn h.rc] 31)).alloc (.cells #[.string r.l,.slice ya rl yc,.string r.p] 55)).alloc (.cells #[.int .i64 0,.slice none 0 0,.int .i64 0,.int .i64 0] 47)):=⟨_,rfl⟩
 rw [<-hW1] at HN4 ⊢
 clear hW1
 obtain ⟨b1,HB1⟩:∃ b1,Hid (b1=w.heap.size):=⟨_,rfl⟩
 rw [<-HB1.out] at HN4 ⊢
 obtain ⟨hB,hx1,hx3,hx2,hx4,hsz⟩:=HN4
 have HS4:Hid (w.heap.size<=b1+1+1+1/\W1.heap.size=b1+1+1+1+1):=⟨by rw [HB1.out];omega,hsz⟩
 clear hsz
 rw [HB1.out] at hB
 obtain ⟨b3,HB3⟩:∃ b3,Hid (b3=b1+1):=⟨_,rfl⟩
 rw [<-HB3.out] at hx3 hx2 hx4 HS4 ⊢
 obtain ⟨b2,HB2⟩:∃ b2,Hid (b2=b3+1):=⟨_,rfl⟩
 rw [<-HB2.out] at hx2 hx4 HS4 ⊢
 obtain ⟨b4,HB4⟩:∃ b4,Hid (b4=b2+1):=⟨_,rfl⟩
 rw [<-HB4.out] at hx4 HS4 ⊢
 have HW1:Hid (Below w.heap.size w W1/\W1.heap[b1]?=some (.cells #[.slice ta tn tc,.string G.s,.int .i64 G.e,.slice ra rn rc] 25 (0,0))/\W1.heap[b2]?=some (.cells #[.string r.l,.slice ya rl yc,.string r.p] 55 (0,0))/\W1.heap[b3]?=some (.cells #[.int .i64 (tn:Int),.int .i64 (S.nt:Int),.int .i64 (S.st:Int),.int .i64 S.ex,.slice h.na nl h.nc,.slice h.la lvn h.lc,.slice h.aa azn h.ac,.slice h.ra sn h.rc] 31 (0,0))/\W1.heap[b4]?=some (.cells #[.int .i64 0,.slice none 0 0,.int .i64 0,.int .i64 0] 47 (0,0))):=⟨hB,hx1,hx2,hx3,hx4⟩
 clear hB hx1 hx2 hx3 hx4 HB1 HB2 HB3 HB4
 have c4:W1.cell? ⟨b3,4,none⟩=some (.slice h.na nl h.nc):=by rw [qe HW1.out.2.2.2.1];rfl
 have c0:W1.cell? ⟨b2,0,none⟩=some (.string r.l):=by rw [qe HW1.out.2.2.1];rfl
 have HLL:Hid (idxI (q9 (nmG G) r.l)=(ruG G r).l):=by
  have hx:=qbt (G:=G) (.inr (qc1.2 ⟨r,HG.out.2.2.2.1,rfl⟩))
  show _=_
  rw [qc2 hx]
  rfl
 go_wp2_with fail
 refine (HIX.out _ _ HW1.out.1).mono ?_
 rintro e V ⟨rfl,rfl⟩
 obtain ⟨l,HL⟩:∃ l,Hid (idxI (q9 (nmG G) r.l)=l):=⟨_,rfl⟩
 rw [HL.out] at HLL ⊢
 have hv:Below V.heap.size V (V.alloc (.cells #[.int .i64 l,.slice none 0 0,.int .i64 0,.int .i64 0] 47)):=qb _ _
 have HO:Hid (RP w (V.alloc (.cells #[.int .i64 l,.slice none 0 0,.int .i64 0,.int .i64 0] 47)) b1 b2 b3 b4 V.heap.size #[.slice ta tn tc,.string G.s,.int .i64 G.e,.slice ra rn rc] #[.string r.l,.slice ya rl yc,.string r.p] #[.int .i64 (tn:Int),.int .i64 (S.nt:Int),.int .i64 (S.st:Int),.int .i64 S.ex,.slice h.na nl h.nc,.slice h.la lvn h.lc,.slice h.aa azn h.ac,.slice h.ra sn h.rc] l [] none 0) :=
  ⟨qf hv HW1.out.2.1,qf hv HW1.out.2.2.1,qf hv HW1.out.2.2.2.1,qf hv HW1.out.2.2.2.2,heap_alloc_new _ _,World.ownsRow_nil _ _ _ _,qd HW1.out.1 hv,by rw [HS4.out.2];omega,HW1.out.1.size⟩
 clear hv c4 c0
 go_upto_region 2 with fail
 generalize V.alloc (.cells #[.int .i64 l,.slice none 0 0,.int .i64 0,.int .i64 0] 47)=Q at HO ⊢
 obtain ⟨b5,HB5⟩:∃ b5,Hid (b5=V.heap.size):=⟨_,rfl⟩
 rw [<-HB5.out] at HO ⊢
 have HB4S:Hid (w.heap.size<=b4):=HS4.out.1
 clear HB5 HW1 HL HS4
 have c1:Q.cell? ⟨b2,1,none⟩=some (.slice ya rl yc):=by rw [qe HO.out.o.x2];rfl
 go_wp2_with fail
 clear c1
 go_loopg [8,9] rl (fun kx s8 s9 wr=>∃ k:Nat,s8=.int .i64 (idxI (byL G (r.r.take k)))/\s9=.int .i64 k/\k<=rl/\rl - k<=kx/\Hid (∃ xa xc,RP w wr b1 b2 b3 b4 b5 #[.slice ta tn tc,.string G.s,.int .i64 G.e,.slice ra rn rc] #[.string r.l,.slice ya rl yc,.string r.p] #[.int .i64 (tn:Int),.int .i64 (S.nt:Int),.int .i64 (S.st:Int),.int .i64 S.ex,.slice h.na nl h.nc,.slice h.la lvn h.lc,.slice h.aa azn h.ac,.slice h.ra sn h.rc] l ((r.r.take k).map (ix (nmG G))) xa xc))
 case atStart=>exact ⟨0,rfl,rfl,Nat.zero_le _,by omega,(⟨_,_,HO.out⟩:∃ xa xc,RP w Q b1 b2 b3 b4 b5 #[.slice ta tn tc,.string G.s,.int .i64 G.e,.slice ra rn rc] #[.string r.l,.slice ya rl yc,.string r.p] #[.int .i64 (tn:Int),.int .i64 (S.nt:Int),.int .i64 (S.st:Int),.int .i64 S.ex,.slice h.na nl h.nc,.slice h.la lvn h.lc,.slice h.aa azn h.ac,.slice h.ra sn h.rc] l ((r.r.take 0).map (ix (nmG G))) xa xc)⟩
 case round =>
  clear HO
  obtain ⟨k,rfl,rfl,hk,hg,J⟩:=hrel
  by_cases hlt:k<rl
  ·have hlt':(k:Int)<(rl:Int):=by omega
   obtain ⟨xa,xc,s⟩:=J.out
   obtain ⟨x,hx⟩:∃ x,r.r[k]?=some x:=⟨r.r[k]'(by rw [HRL.out];exact hlt),List.getElem?_eq_getElem _⟩
   obtain ⟨b,o,hya,q0⟩:=jm (HG.out.2.2.2.2.below s.o.bel) hx
   subst hya
   have hxm:x∈nmG G:=qbt (HG.out.2.2.1.rr r HG.out.2.2.2.1 x (List.mem_of_getElem? hx))
   have HXX:Hid (r.r[k]?=some x):=hx
   have c4:wr.cell? ⟨b3,4,none⟩=some (.slice h.na nl h.nc):=by rw [qe s.o.x3];rfl
   have c1:wr.cell? ⟨b2,1,none⟩=some (.slice (some ⟨b,o,none⟩) rl yc):=by rw [qe s.o.x2];rfl
   have HIC:Hid (Calls Tryz.prog 32 #[.slice h.na nl h.nc,.string x] wr.drew fun e w'=>e=.returned (.int .i64 ((ix (nmG G) x:Nat):Int))/\w'=wr.drew):=by
    have:=HIX.out wr.drew x (qd s.o.bel (qk _))
    rw [qc2 hxm] at this
    exact this
   obtain ⟨y,HY⟩:∃ y,Hid (ix (nmG G) x=y):=⟨_,rfl⟩
   rw [HY.out] at HIC
   have hy9:y<=1000:=by
    have:=qeu hxm
    rw [HY.out,jj] at this
    have:=j9 G.rs
    have:=HTN.out
    have:=HRN.out
    omega
   have HS:Hid (RP w wr b1 b2 b3 b4 b5 #[.slice ta tn tc,.string G.s,.int .i64 G.e,.slice ra rn rc] #[.string r.l,.slice (some ⟨b,o,none⟩) rl yc,.string r.p] #[.int .i64 (tn:Int),.int .i64 (S.nt:Int),.int .i64 (S.st:Int),.int .i64 S.ex,.slice h.na nl h.nc,.slice h.la lvn h.lc,.slice h.aa azn h.ac,.slice h.ra sn h.rc] l ((r.r.take k).map (ix (nmG G))) xa xc):=s
   clear s J hx hxm
   obtain ⟨by0,HBY⟩:∃ by0,Hid (idxI (byL G (r.r.take k))=by0):=⟨_,rfl⟩
   rw [HBY.out]
   go_upto_region 6 with fail
   go_cut [8,9,10] from 17 to 42 (fun s8 s9 s10 wd=>s8=.int .i64 by0/\s9=.int .i64 (k:Int)/\s10=.int .i64 (y:Int)/\Hid (Below wr.heap.size wr wd))
   case first =>
    have HE:Hid (Below wr.heap.size wr wr.drew):=qk wr
    go_region_with (first | (go_at_call 32;refine HIC.out.mono ?_;rintro e V2 ⟨rfl,rfl⟩))
    all_goals
     go_wp2_with fail
     go_meet
     exact ⟨rfl,rfl,rfl,HE⟩
   case rest =>
    obtain ⟨rfl,rfl,rfl,HE⟩:=hcut
    obtain ⟨V3,hV3⟩:∃ V3,V3=wc:=⟨_,rfl⟩
    subst wc
    have s:=HS.out.step HE.out
    clear c4 c1 q0 HIC HS HE
    have elk:((r.r.take k).map (ix (nmG G))).length=k:=by rw [List.length_map,List.length_take,HRL.out];omega
    obtain ⟨g,c,V1,hr1,x1,f1,s1⟩:=s.add y (by omega)
    have c1:V3.cell? ⟨b5,1,none⟩=some (.slice xa k xc):=by rw [qe s.o.x5,elk];rfl
    rw [elk] at hr1 x1 s1
    have HS1:Hid (RP w (V1.setCell ⟨b5,1,none⟩ (.slice (some ⟨g,0,none⟩) (k+1) c)) b1 b2 b3 b4 b5 #[.slice ta tn tc,.string G.s,.int .i64 G.e,.slice ra rn rc] #[.string r.l,.slice (some ⟨b,o,none⟩) rl yc,.string r.p] #[.int .i64 (tn:Int),.int .i64 (S.nt:Int),.int .i64 (S.st:Int),.int .i64 S.ex,.slice h.na nl h.nc,.slice h.la lvn h.lc,.slice h.aa azn h.ac,.slice h.ra sn h.rc] l ((r.r.take (k+1)).map (ix (nmG G))) (some ⟨g,0,none⟩) c):=by
     have e:(r.r.take (k+1)).map (ix (nmG G))=(r.r.take k).map (ix (nmG G))++[y]:=by rw [zn HXX.out,List.map_append,<-HY.out];rfl
     rw [e]
     exact s1
    clear s s1 elk
    go_upto_region 8 with (at_builtin;refine Lib.wpList_append_run _ rfl _ _ _ _ rfl _ _ rfl rfl _ _ hr1 ?_)
    generalize V1.setCell ⟨b5,1,none⟩ (.slice (some ⟨g,0,none⟩) (k+1) c)=Q1 at HS1 ⊢
    clear hr1 x1 f1 c1
    have z0:Q1.cell? ⟨b3,0,none⟩=some (.int .i64 (tn:Int)):=by rw [qe HS1.out.o.x3];rfl
    have HF:Hid (∃ xa xc,RP w Q1 b1 b2 b3 b4 b5 #[.slice ta tn tc,.string G.s,.int .i64 G.e,.slice ra rn rc] #[.string r.l,.slice (some ⟨b,o,none⟩) rl yc,.string r.p] #[.int .i64 (tn:Int),.int .i64 (S.nt:Int),.int .i64 (S.st:Int),.int .i64 S.ex,.slice h.na nl h.nc,.slice h.la lvn h.lc,.slice h.aa azn h.ac,.slice h.ra sn h.rc] l ((r.r.take (k+1)).map (ix (nmG G))) xa xc):=⟨_,_,HS1.out⟩
    clear HS1
    by_cases hyt:y<tn
    ·have hyt':(y:Int)<(tn:Int):=by omega
     have HE:Hid (byL G (r.r.take (k+1))=some y):=by
      show _=_
      rw [zn HXX.out,qdj]
      unfold byS
      rw [HY.out,if_pos (by rw [HTN.out];exact hyt)]
     go_wp2_with fail
     go_roundg (rl - (k+1))
     case measure=>omega
     case rel=>exact ⟨k+1,by rw [HE.out];rfl,by simp,by omega,Nat.le_refl _,HF⟩
    ·have hyt':¬ (y:Int)<(tn:Int):=by omega
     have HE:Hid (idxI (byL G (r.r.take (k+1)))=by0):=by
      show _=_
      rw [zn HXX.out,qdj]
      unfold byS
      rw [HY.out,if_neg (by rw [HTN.out];exact hyt)]
      exact HBY.out
     go_wp2_with fail
     go_roundg (rl - (k+1))
     case measure=>omega
     case rel=>exact ⟨k+1,by rw [HE.out],by simp,by omega,Nat.le_refl _,HF⟩
  ·have hlt':¬ (k:Int)<(rl:Int):=by omega
   obtain ⟨w5,hw5⟩:∃ w5,w5=wr:=⟨_,rfl⟩
   subst wr
   have eT:r.r.take k=r.r:=List.take_of_length_le (by rw [HRL.out];omega)
   rw [eT] at J ⊢
   have R0:Hid (∃ xa xc,RP w w5 b1 b2 b3 b4 b5 #[.slice ta tn tc,.string G.s,.int .i64 G.e,.slice ra rn rc] #[.string r.l,.slice ya rl yc,.string r.p] #[.int .i64 (tn:Int),.int .i64 (S.nt:Int),.int .i64 (S.st:Int),.int .i64 S.ex,.slice h.na nl h.nc,.slice h.la lvn h.lc,.slice h.aa azn h.ac,.slice h.ra sn h.rc] l (ruG G r).r xa xc):=J.out
   clear J eT
   have c1:w5.cell? ⟨b2,1,none⟩=some (.slice ya rl yc):=by
    obtain ⟨xa,xc,s⟩:=R0.out
    rw [qe s.o.x2];rfl
   have c2:w5.cell? ⟨b2,2,none⟩=some (.string r.p):=by
    obtain ⟨xa,xc,s⟩:=R0.out
    rw [qe s.o.x2];rfl
   obtain ⟨by0,HBY⟩:∃ by0,Hid (idxI (byL G r.r)=by0):=⟨_,rfl⟩
   rw [HBY.out]
   obtain ⟨bp,hbp⟩:∃ bp,(r.p.toList == [])=bp:=⟨_,rfl⟩
   have HBP:Hid ((r.p.toList == [])=bp):=hbp
   go_upto_if 45 with fail
   clear hbp
   go_cut [8] (fun s8 wd=>s8=.int .i64 (idxI (byG G r))/\Hid (∃ xa xc,RP w wd b1 b2 b3 b4 b5 #[.slice ta tn tc,.string G.s,.int .i64 G.e,.slice ra rn rc] #[.string r.l,.slice ya rl yc,.string r.p] #[.int .i64 (tn:Int),.int .i64 (S.nt:Int),.int .i64 (S.st:Int),.int .i64 S.ex,.slice h.na nl h.nc,.slice h.la lvn h.lc,.slice h.aa azn h.ac,.slice h.ra sn h.rc] l (ruG G r).r xa xc))
   case first =>
    cases bp
    rotate_left
    ·have hp:r.p=e0:=(zo r.p).1 HBP.out
     have HE:Hid (idxI (byG G r)=by0):=by
      show _=_
      unfold byG
      rw [if_pos hp]
      exact HBY.out
     clear hp
     go_wp2_with fail
     go_meet
     exact ⟨by rw [HE.out],R0⟩
    ·have hp:¬ r.p=e0:=fun e=>by have:=(zo r.p).2 e;rw [HBP.out] at this;cases this
     have HE:Hid (idxI (q9 (tkG G) r.p)=idxI (byG G r)):=by
      show _=_
      unfold byG
      rw [if_neg hp]
     clear hp
     obtain ⟨xa,xc,s⟩:=R0.out
     have HS:Hid (RP w w5 b1 b2 b3 b4 b5 #[.slice ta tn tc,.string G.s,.int .i64 G.e,.slice ra rn rc] #[.string r.l,.slice ya rl yc,.string r.p] #[.int .i64 (tn:Int),.int .i64 (S.nt:Int),.int .i64 (S.st:Int),.int .i64 S.ex,.slice h.na nl h.nc,.slice h.la lvn h.lc,.slice h.aa azn h.ac,.slice h.ra sn h.rc] l (ruG G r).r xa xc):=s
     obtain ⟨p0,p1,p2,p3⟩:=box4 s.x1
     clear s R0
     rw [HE.out] at HTK
     go_wp2_with fail
     refine (HTK.out _ HS.out.o.bel).mono ?_
     rintro e V4 ⟨rfl,hB⟩
     have HF:Hid (∃ xa xc,RP w V4 b1 b2 b3 b4 b5 #[.slice ta tn tc,.string G.s,.int .i64 G.e,.slice ra rn rc] #[.string r.l,.slice ya rl yc,.string r.p] #[.int .i64 (tn:Int),.int .i64 (S.nt:Int),.int .i64 (S.st:Int),.int .i64 S.ex,.slice h.na nl h.nc,.slice h.la lvn h.lc,.slice h.aa azn h.ac,.slice h.ra sn h.rc] l (ruG G r).r xa xc):=⟨_,_,HS.out.step hB⟩
     clear hB HS p0 p1 p2 p3
     go_wp2_with fail
     go_meet
     exact ⟨rfl,HF⟩
   case rest =>
    obtain ⟨rfl,R1⟩:=hcut
    obtain ⟨w6,hw6⟩:∃ w6,w6=wc:=⟨_,rfl⟩
    subst wc
    clear R0 HIX HTK c1 c2
    obtain ⟨xa,xc,s⟩:=R1.out
    have HS:Hid (RP w w6 b1 b2 b3 b4 b5 #[.slice ta tn tc,.string G.s,.int .i64 G.e,.slice ra rn rc] #[.string r.l,.slice ya rl yc,.string r.p] #[.int .i64 (tn:Int),.int .i64 (S.nt:Int),.int .i64 (S.st:Int),.int .i64 S.ex,.slice h.na nl h.nc,.slice h.la lvn h.lc,.slice h.aa azn h.ac,.slice h.ra sn h.rc] l (ruG G r).r xa xc):=s
    clear s R1
    obtain ⟨zz,HZZ⟩:∃ zz,Hid (idxI (byG G r)=zz):=⟨_,rfl⟩
    rw [HZZ.out]
    go_upto_if 51 with fail
    go_cut [8] (fun s8 wd=>Hid (RD7 w wd b4 b5 l (ruG G r).r (ruG G r).lv (ruG G r).a xa xc))
    case first =>
     have HLV:Hid ((ruG G r).lv=lvO G.ts (byG G r)/\(ruG G r).a=azO G.ts (byG G r)):=⟨rfl,rfl⟩
     cases hby:byG G r with
     | none =>
      have HF:Hid (RD7 w w6 b4 b5 l (ruG G r).r (ruG G r).lv (ruG G r).a xa xc):=by
       have h1:=HLV.out
       rw [hby] at h1
       rw [h1.1,h1.2]
       exact HS.out.o.done
      have hz:¬ (0:Int)<=zz:=by rw [<-HZZ.out,hby];decide
      clear hby
      go_wp2_with fail
      go_meet
      exact HF
     | some j =>
      have hj:j<G.ts.length:=qon hby
      obtain ⟨u,hu⟩:∃ u,G.ts[j]?=some u:=⟨G.ts[j],List.getElem?_eq_getElem hj⟩
      have q5:w6.cell? ⟨b1,0,none⟩=some (.slice ta tn tc):=by rw [qe HS.out.x1];rfl
      obtain ⟨b,o,hla,v4,v5,v6⟩:=ja (HG.out.1.tok.below HS.out.o.bel) hu
      have hbl:b<w.heap.size:=by
       obtain ⟨b9,o9,h9,v9,-,-⟩:=ja HG.out.1.tok hu
       rw [hla] at h9
       cases h9
       exact World.block_lt_of_cell? w _ v9
      simp only at hla
      rw [hla] at q5
      rw [HTN.out] at hj
      have hjt':(j:Int)<(tn:Int):=by omega
      have y2:w6.cell? ⟨b5,2,none⟩=some (.int .i64 0):=by rw [qe HS.out.o.x5];rfl
      have y3:w6.cell? ⟨b5,3,none⟩=some (.int .i64 0):=by rw [qe HS.out.o.x5];rfl
      have f2:w6.frozen? ⟨b5,2,none⟩=false:=qi HS.out.o.x5 2
      have f3:w6.frozen? ⟨b5,3,none⟩=false:=qi HS.out.o.x5 3
      have hdw:=(HS.out.step (qk w6)).o
      have hl1:(ruG G r).lv=u.l/\(ruG G r).a=u.a:=by
       have h1:=HLV.out
       rw [hby] at h1
       rw [h1.1,h1.2]
       unfold lvO azO
       simp only [hu]
       exact ⟨rfl,rfl⟩
      have HFA:Hid (RD7 w ((w6.drew.setCell ⟨b5,2,none⟩ (.int .i64 u.l)).setCell ⟨b5,3,none⟩ (.int .i64 u.a)) b4 b5 l (ruG G r).r (ruG G r).lv (ruG G r).a xa xc):=by
       rw [hl1.1,hl1.2]
       exact (hdw.done.put2 hdw.ne hdw.n5 u.l).put3 hdw.ne hdw.n5 u.a
      have HFB:Hid (RD7 w ((w6.drew.setCell ⟨b5,3,none⟩ (.int .i64 u.a)).setCell ⟨b5,2,none⟩ (.int .i64 u.l)) b4 b5 l (ruG G r).r (ruG G r).lv (ruG G r).a xa xc):=by
       rw [hl1.1,hl1.2]
       exact (hdw.done.put3 hdw.ne hdw.n5 u.a).put2 hdw.ne hdw.n5 u.l
      obtain rfl:zz=(j:Int):=by rw [<-HZZ.out,hby];rfl
      have n3:b1≠b5:=qr ⟨_,HS.out.x1⟩ ⟨_,HS.out.o.x5⟩ (by decide)
      have n5':b≠b5:=by have:=HS.out.o.n5;omega
      clear hdw hl1 hu hby hla hj hbl v4
      go_upto_region 13 with fail
      go_region_held (fun w'=>w'.cell? ⟨b1,0,none⟩=some (.slice (some ⟨b,o,none⟩) tn tc)/\w'.cell? ⟨b,o+j * 3+1,none⟩=some (.int .i64 u.l)/\w'.cell? ⟨b,o+j * 3+2,none⟩=some (.int .i64 u.a)) (first | exact ⟨q5,v5,v6⟩ | exact ⟨qz q5 n3,qz v5 n5',qz v6 n5'⟩ | exact ⟨qz (qz q5 n3) n3,qz (qz v5 n5') n5',qz (qz v6 n5') n5'⟩) (fail)
      all_goals
       go_wp2_with fail
       go_meet
       first | exact HFA | exact HFB
    case rest =>
     obtain ⟨w7,hw7⟩:∃ w7,w7=wc:=⟨_,rfl⟩
     subst wc
     have HD:Hid (RD7 w w7 b4 b5 l (ruG G r).r (ruG G r).lv (ruG G r).a xa xc/\w.heap.size<=b4):=⟨hcut.out,HB4S.out⟩
     clear hcut HS
     have y0:w7.cell? ⟨b5,0,none⟩=some (.int .i64 l):=by rw [qe HD.out.1.x5];rfl
     have y1:w7.cell? ⟨b5,1,none⟩=some (.slice xa (ruG G r).r.length xc):=by rw [qe HD.out.1.x5];rfl
     have y2:w7.cell? ⟨b5,2,none⟩=some (.int .i64 (ruG G r).lv):=by rw [qe HD.out.1.x5];rfl
     have y3:w7.cell? ⟨b5,3,none⟩=some (.int .i64 (ruG G r).a):=by rw [qe HD.out.1.x5];rfl
     obtain ⟨z0,z1,z2,z3,f0,f1,f2,f3⟩:=qdk HD.out.1.x4
     have HF:Hid (∀ v0 v1 v2 v3,((((w7.setCell ⟨b4,0,none⟩ v0).setCell ⟨b4,1,none⟩ v1).setCell ⟨b4,2,none⟩ v2).setCell ⟨b4,3,none⟩ v3).ownsRow w.heap.size 3 1 (.slice xa (ruG G r).r.length xc) (ruG G r).r.length (natC (ruG G r).r)/\Below w.heap.size w ((((w7.setCell ⟨b4,0,none⟩ v0).setCell ⟨b4,1,none⟩ v1).setCell ⟨b4,2,none⟩ v2).setCell ⟨b4,3,none⟩ v3)):=fun v0 v1 v2 v3=>by
      have hl:Loc w7 b4 47:=⟨_,HD.out.1.x4⟩
      have l1:=hl.set b4 0 v0
      have l2:=l1.set b4 1 v1
      have l3:=l2.set b4 2 v2
      exact ⟨j0 (j0 (j0 (j0 HD.out.1.own hl (by decide)) l1 (by decide)) l2 (by decide)) l3 (by decide),(((HD.out.1.bel.setCell (p:=⟨b4,0,none⟩) HD.out.2 _).setCell (p:=⟨b4,1,none⟩) HD.out.2 _).setCell (p:=⟨b4,2,none⟩) HD.out.2 _).setCell (p:=⟨b4,3,none⟩) HD.out.2 _⟩
     obtain ⟨yn,HYN⟩:∃ yn,Hid ((ruG G r).r.length=yn):=⟨_,rfl⟩
     obtain ⟨ylv,HYL⟩:∃ ylv,Hid ((ruG G r).lv=ylv):=⟨_,rfl⟩
     obtain ⟨yaa,HYA⟩:∃ yaa,Hid ((ruG G r).a=yaa):=⟨_,rfl⟩
     rw [HYN.out] at y1
     rw [HYL.out] at y2
     rw [HYA.out] at y3
     go_wp2_with fail
     refine bodyPost_ret (v:=.agg #[.int .i64 l,.slice xa yn xc,.int .i64 ylv,.int .i64 yaa]) (by simp [results,Tryz.results33,go_sem, *]) rfl ?_
     exact ⟨xa,xc,by rw [<-HLL.out,HYN.out,HYL.out,HYA.out],HF.out _ _ _ _⟩
theorem qkb (G:Gm) (h:Hd) (w:World) (k:Int) (hG:IsG w h G) (hk:OfR G k):Calls Tryz.prog 73 #[gv h G] w fun e w'=>((k≠0/\e=.returned (.tuple #[.agg zC,.int .i64 k]))\/(k=0/\∃ h',e=.returned (.tuple #[sv h' (spG G),.int .i64 0])/\IsSp w' h' (spG G)))/\Below w.heap.size w w':=by
 have hs1:G.ts.length<=100:=hG.small.nt
 have hs2:G.rs.length<=200:=hG.small.nr
 have HG:Hid (IsG w h G):=hG
 have HK:Hid (OfR G k):=hk
 clear hG hk
 obtain ⟨bm,hbm⟩:=zr (MayP G)
 have HBM:Hid (bm=true↔MayP G):=hbm
 have HMC:Hid (∀ V,Below w.heap.size w V->Calls Tryz.prog 80 #[gv h G] V fun e w'=>e=.returned (.bool bm)/\Below V.heap.size V w'):=fun V hV=>qce G h V bm (HG.out.below hV) HBM.out
 have HSC:Hid (∀ V,Below w.heap.size w V->Calls Tryz.prog 81 #[gv h G] V fun e w'=>∃ h',e=.returned (.agg (sC h' (sy0 G)))/\OwnSp w' V.heap.size h' (sy0 G) []/\Below V.heap.size V w'):=fun V hV=>qgp G h V (HG.out.below hV)
 obtain ⟨bl,hbl⟩:=zr (kz G)
 have HBL:Hid (bl=true↔kz G):=hbl
 have HLC:Hid (∀ V,Below w.heap.size w V->Calls Tryz.prog 82 #[gv h G,.int .i64 ((lfs G.rs).length:Int)] V fun e w'=>e=.returned (.bool bl)/\Below V.heap.size V w'):=fun V hV=>qi2 G h V (HG.out.below hV) bl HBL.out _ rfl
 clear hbm hbl
 obtain ⟨ta,tc,ra,rc⟩:=h
 unfold gv at HMC HSC HLC ⊢
 simp only at HMC HSC HLC ⊢
 have hB1:Below w.heap.size w ((w.alloc (.cells #[.slice ta G.ts.length tc,.string G.s,.int .i64 G.e,.slice ra G.rs.length rc] 25)).alloc (.cells zC 31)):=qd (qb _ _) (qb _ _)
 have hg1:((w.alloc (.cells #[.slice ta G.ts.length tc,.string G.s,.int .i64 G.e,.slice ra G.rs.length rc] 25)).alloc (.cells zC 31)).heap[w.heap.size]?=some (.cells #[.slice ta G.ts.length tc,.string G.s,.int .i64 G.e,.slice ra G.rs.length rc] 25 (0,0)):=qf (qb _ _) (heap_alloc_new _ _)
 have hg2:((w.alloc (.cells #[.slice ta G.ts.length tc,.string G.s,.int .i64 G.e,.slice ra G.rs.length rc] 25)).alloc (.cells zC 31)).heap[w.heap.size+1]?=some (.cells zC 31 (0,0)):=by
  have:=heap_alloc_new (w.alloc (.cells #[.slice ta G.ts.length tc,.string G.s,.int .i64 G.e,.slice ra G.rs.length rc] 25)) (.cells zC 31)
  rwa [qt] at this
 obtain ⟨tn,HTN⟩:∃ tn,Hid (G.ts.length=tn):=⟨_,rfl⟩
 obtain ⟨rn,HRN⟩:∃ rn,Hid (G.rs.length=rn):=⟨_,rfl⟩
 rw [HTN.out] at hs1 HMC HSC HLC hB1 hg1 hg2 ⊢
 rw [HRN.out] at hs2 HMC HSC HLC hB1 hg1 hg2 ⊢
 obtain ⟨m,HM⟩:∃ m,Hid ((lfs G.rs).length=m):=⟨_,rfl⟩
 rw [HM.out] at HLC
 go_enter Tryz.func73,Tryz.ntmps73
 go_upto_region 1 with fail
 have ez:(w.alloc (.cells #[.slice ta tn tc,.string G.s,.int .i64 G.e,.slice ra rn rc] 25)).alloc (.cells #[.int .i64 0,.int .i64 0,.int .i64 0,.int .i64 0,.slice none 0 0,.slice none 0 0,.slice none 0 0,.slice none 0 0] 31)=(w.alloc (.cells #[.slice ta tn tc,.string G.s,.int .i64 G.e,.slice ra rn rc] 25)).alloc (.cells zC 31):=rfl
 rw [ez]
 generalize (w.alloc (.cells #[.slice ta tn tc,.string G.s,.int .i64 G.e,.slice ra rn rc] 25)).alloc (.cells zC 31)=W1 at hB1 hg1 hg2 ⊢
 obtain ⟨gb,HGB⟩:∃ gb,Hid (gb=w.heap.size):=⟨_,rfl⟩
 rw [<-HGB.out] at hg1 hg2 ⊢
 have HRB:Hid (w.heap.size<=gb+1):=by rw [HGB.out];exact Nat.le_succ _
 generalize gb+1=rb at hg2 HRB ⊢
 have H1:Hid (W1.heap[gb]?=some (.cells #[.slice ta tn tc,.string G.s,.int .i64 G.e,.slice ra rn rc] 25 (0,0))/\W1.heap[rb]?=some (.cells zC 31 (0,0))/\Below w.heap.size w W1):=⟨hg1,hg2,hB1⟩
 obtain ⟨p0,p1,p2,p3⟩:=box4 hg1
 clear ez hB1 hg1 hg2 HGB
 go_wp2_with fail
 refine (HMC.out _ H1.out.2.2).mono ?_
 rintro e W2 ⟨rfl,hB2⟩
 have H2:Hid (W2.heap[gb]?=some (.cells #[.slice ta tn tc,.string G.s,.int .i64 G.e,.slice ra rn rc] 25 (0,0))/\W2.heap[rb]?=some (.cells zC 31 (0,0))/\Below w.heap.size w W2):=⟨qf hB2 H1.out.1,qf hB2 H1.out.2.1,qd H1.out.2.2 hB2⟩
 clear H1 hB2 p0 p1 p2 p3 HMC
 rcases bm with _ | _
 ·have HKV:Hid (k=1):=by
   have hn:¬ MayP G:=fun e=>by have:=HBM.out.2 e;cases this
   rcases HK.out with e | e | e | e | e
   ·exact e.1
   ·exact absurd e.2.1 hn
   ·exact absurd e.2.1 hn
   ·exact absurd e.2.1 hn
   ·exact absurd e.2.1 hn
  obtain ⟨z0,z1,z2,z3,z4,z5,z6,z7⟩:=box8 H2.out.2.1
  obtain ⟨f0,f1,f2,f3,f4,f5,f6,f7⟩:=qa4 H2.out.2.1
  have HF:Hid (∀ v0 v1 v2 v3 v4 v5 v6 v7,Below w.heap.size w (set8 W2 rb v0 v1 v2 v3 v4 v5 v6 v7)):=fun v0 v1 v2 v3 v4 v5 v6 v7=>jd H2.out.2.2 HRB.out
  go_wp2_with fail
  refine bodyPost_ret (v:=.tuple #[.agg zC,.int .i64 1]) (by unfold zC sC;simp [results,Tryz.results73,go_sem, *]) rfl ?_
  exact ⟨.inl ⟨by rw [HKV.out];decide,by rw [HKV.out]⟩,HF.out _ _ _ _ _ _ _ _⟩
 ·have HMP:Hid (MayP G):=HBM.out.1 rfl
  clear HBM
  obtain ⟨p0,p1,p2,p3⟩:=box4 H2.out.1
  go_upto_region 3 with fail
  go_wp2_with fail
  refine (HSC.out _ H2.out.2.2).mono ?_
  rintro e W3 ⟨hh,rfl,ho3,hB3⟩
  obtain ⟨na,nc,la,lc,aa,ac,ra',rc'⟩:=hh
  have HSR:Hid (sC ⟨na,nc,la,lc,aa,ac,ra',rc'⟩ (sy0 G)=#[.int .i64 (tn:Int),.int .i64 (m:Int),.int .i64 0,.int .i64 G.e,.slice na (nmG G).length nc,.slice la (G.ts.map (·.l)).length lc,.slice aa (G.ts.map (·.a)).length ac,.slice ra' 0 rc']):=by
   rw [<-HTN.out,<-HM.out];rfl
  obtain ⟨nn,HNN⟩:∃ nn,Hid ((nmG G).length=nn):=⟨_,rfl⟩
  obtain ⟨l1,HC5⟩:∃ l1,Hid ((G.ts.map (·.l)).length=l1):=⟨_,rfl⟩
  obtain ⟨a1,HC6⟩:∃ a1,Hid ((G.ts.map (·.a)).length=a1):=⟨_,rfl⟩
  rw [HNN.out,HC5.out,HC6.out] at HSR
  rw [HSR.out]
  have HX:Hid (OX w (W3.alloc (.cells #[.int .i64 (tn:Int),.int .i64 (m:Int),.int .i64 0,.int .i64 G.e,.slice na nn nc,.slice la l1 lc,.slice aa a1 ac,.slice ra' 0 rc'] 31)) gb rb W3.heap.size ⟨ta,tc,ra,rc⟩ G ⟨na,nc,la,lc,aa,ac,ra',rc'⟩ (sy0 G) []):=by
   refine OX.first ?_ (qf hB3 H2.out.2.1) HSR.out (ho3.mono H2.out.2.2.size) (qd H2.out.2.2 hB3)
   rw [HTN.out,HRN.out]
   exact qf hB3 H2.out.1
  clear ho3 hB3 H2 HSC p0 p1 p2 p3
  go_upto_region 4 with fail
  generalize W3.alloc (.cells #[.int .i64 (tn:Int),.int .i64 (m:Int),.int .i64 0,.int .i64 G.e,.slice na nn nc,.slice la l1 lc,.slice aa a1 ac,.slice ra' 0 rc'] 31)=V at HX ⊢
  generalize W3.heap.size=sb at HX ⊢
  have HXG:Hid (∀ U:World,OX w U gb rb sb ⟨ta,tc,ra,rc⟩ G ⟨na,nc,la,lc,aa,ac,ra',rc'⟩ (sy0 G) []->U.heap[gb]?=some (.cells #[.slice ta tn tc,.string G.s,.int .i64 G.e,.slice ra rn rc] 25 (0,0))/\U.heap[sb]?=some (.cells #[.int .i64 (tn:Int),.int .i64 (m:Int),.int .i64 0,.int .i64 G.e,.slice na nn nc,.slice la l1 lc,.slice aa a1 ac,.slice ra' 0 rc'] 31 (0,0))):=fun U s=>by
   have h1:=s.gx
   have h2:=s.sx
   rw [HTN.out,HRN.out] at h1
   rw [HSR.out] at h2
   exact ⟨h1,h2⟩
  obtain ⟨p0,p1,p2,p3⟩:=box4 (HXG.out V HX.out).1
  obtain ⟨q0,q1,q2,q3,q4,q5,q6,q7⟩:=box8 (HXG.out V HX.out).2
  go_wp2_with fail
  refine (HLC.out _ HX.out.bel).mono ?_
  rintro e V4 ⟨rfl,hB4⟩
  have HX4:Hid (OX w V4 gb rb sb ⟨ta,tc,ra,rc⟩ G ⟨na,nc,la,lc,aa,ac,ra',rc'⟩ (sy0 G) []):=HX.out.step hB4
  clear HX hB4 HLC p0 p1 p2 p3 q0 q1 q2 q3 q4 q5 q6 q7
  cases bl
  case true =>
   have HKV:Hid (k=6):=by
    have hn:kz G:=HBL.out.1 rfl
    have hm:MayP G:=HMP.out
    rcases HK.out with e | e | e | e | e
    ·exact absurd hm e.2
    ·exact e.1
    ·exact absurd hn e.2.2.1
    ·exact absurd hn e.2.2.1
    ·exact absurd hn e.2.2.1
   obtain ⟨z0,z1,z2,z3,z4,z5,z6,z7⟩:=box8 HX4.out.rx
   obtain ⟨f0,f1,f2,f3,f4,f5,f6,f7⟩:=qa4 HX4.out.rx
   have HF:Hid (∀ v0 v1 v2 v3 v4 v5 v6 v7,Below w.heap.size w (set8 V4 rb v0 v1 v2 v3 v4 v5 v6 v7)):=fun v0 v1 v2 v3 v4 v5 v6 v7=>jd HX4.out.bel HRB.out
   go_wp2_with fail
   refine bodyPost_ret (v:=.tuple #[.agg zC,.int .i64 6]) (by unfold zC sC;simp [results,Tryz.results73,go_sem, *]) rfl ?_
   exact ⟨.inl ⟨by rw [HKV.out];decide,by rw [HKV.out]⟩,HF.out _ _ _ _ _ _ _ _⟩
  case false =>
   have HLN:Hid (¬ kz G):=fun e=>by have:=HBL.out.2 e;cases this
   clear HBL
   obtain ⟨bn,hbn⟩:=zr (NmP G)
   have HBN:Hid (bn=true↔NmP G):=hbn
   clear hbn
   have HNC:Hid (∀ U:World,OX w U gb rb sb ⟨ta,tc,ra,rc⟩ G ⟨na,nc,la,lc,aa,ac,ra',rc'⟩ (sy0 G) []->Calls Tryz.prog 83 #[.agg #[.slice ta tn tc,.string G.s,.int .i64 G.e,.slice ra rn rc],.agg #[.int .i64 (tn:Int),.int .i64 (m:Int),.int .i64 0,.int .i64 G.e,.slice na nn nc,.slice la l1 lc,.slice aa a1 ac,.slice ra' 0 rc']] U fun e w'=>e=.returned (.bool bn)/\Below U.heap.size U w'):=fun U s=>by
    have:=qli G ⟨ta,tc,ra,rc⟩ (sy0 G) _ U (HG.out.below s.bel) s.own.isSp ⟨rfl,rfl,rfl,rfl⟩ HMP.out bn HBN.out
    unfold gv at this
    rw [HSR.out] at this
    simp only at this
    rw [HTN.out,HRN.out] at this
    exact this
   obtain ⟨p0,p1,p2,p3⟩:=box4 (HXG.out V4 HX4.out).1
   obtain ⟨q0,q1,q2,q3,q4,q5,q6,q7⟩:=box8 (HXG.out V4 HX4.out).2
   go_wp2_with fail
   refine (HNC.out _ HX4.out).mono ?_
   rintro e V5 ⟨rfl,hB5⟩
   have HX5:Hid (OX w V5 gb rb sb ⟨ta,tc,ra,rc⟩ G ⟨na,nc,la,lc,aa,ac,ra',rc'⟩ (sy0 G) []):=HX4.out.step hB5
   clear HX4 hB5 HNC p0 p1 p2 p3 q0 q1 q2 q3 q4 q5 q6 q7
   rcases bn with _ | _
   ·have HKV:Hid (k=7):=by
     have hl:¬ kz G:=HLN.out
     have hn:¬ NmP G:=fun e=>by have:=HBN.out.2 e;cases this
     have hm:MayP G:=HMP.out
     rcases HK.out with e | e | e | e | e
     ·exact absurd hm e.2
     ·exact absurd e.2.2 hl
     ·exact e.1
     ·exact absurd e.2.2.2.1 hn
     ·exact absurd e.2.2.2.1 hn
    obtain ⟨z0,z1,z2,z3,z4,z5,z6,z7⟩:=box8 HX5.out.rx
    obtain ⟨f0,f1,f2,f3,f4,f5,f6,f7⟩:=qa4 HX5.out.rx
    have HF:Hid (∀ v0 v1 v2 v3 v4 v5 v6 v7,Below w.heap.size w (set8 V5 rb v0 v1 v2 v3 v4 v5 v6 v7)):=fun v0 v1 v2 v3 v4 v5 v6 v7=>jd HX5.out.bel HRB.out
    go_wp2_with fail
    refine bodyPost_ret (v:=.tuple #[.agg zC,.int .i64 7]) (by unfold zC sC;simp [results,Tryz.results73,go_sem, *]) rfl ?_
    exact ⟨.inl ⟨by rw [HKV.out];decide,by rw [HKV.out]⟩,HF.out _ _ _ _ _ _ _ _⟩
   ·have HNP:Hid (NmP G):=HBN.out.1 rfl
    clear HBN
    obtain ⟨st,HSTN⟩:∃ st,Hid (stG G=st):=⟨_,rfl⟩
    have HST:Hid (∀ U:World,Below w.heap.size w U->Calls Tryz.prog 85 #[.agg #[.slice ta tn tc,.string G.s,.int .i64 G.e,.slice ra rn rc]] U fun e w'=>e=.returned (.string (kc G))/\Below U.heap.size U w'):=fun U hU=>by
     have:=qdw G ⟨ta,tc,ra,rc⟩ U (HG.out.below hU) HNP.out.ne
     unfold gv at this
     simp only at this
     rw [HTN.out,HRN.out] at this
     exact this
    have HIX:Hid (∀ U:World,Row U 1 na nn nc (strC (nmG G))->Calls Tryz.prog 84 #[.slice na nn nc,.string (kc G)] U fun e w'=>e=.returned (.int .i64 (st:Int))/\w'=U):=fun U hU=>by
     have:=qa1 (nmG G) na nc (kc G) U (by rw [HNN.out];exact hU) (by have h1:=j9 G.rs;have h2:=HTN.out;have h3:=HRN.out;unfold nmG tkG;simp;omega)
     rw [qeh HMP.out HNP.out HNP.out.st,HNN.out] at this
     rw [<-HSTN.out]
     exact this
    have HRW:Hid (∀ U:World,OX w U gb rb sb ⟨ta,tc,ra,rc⟩ G ⟨na,nc,la,lc,aa,ac,ra',rc'⟩ (sy0 G) []->Row U 1 na nn nc (strC (nmG G))):=fun U s=>by
     have:=s.own.isSp.nm
     simp only [sy0] at this
     rw [HNN.out] at this
     exact this
    have HR8:Hid (sC ⟨na,nc,la,lc,aa,ac,ra',rc'⟩ ⟨G.ts.length,(lfs G.rs).length,st,G.e,nmG G,G.ts.map (·.l),G.ts.map (·.a),[]⟩=#[.int .i64 (tn:Int),.int .i64 (m:Int),.int .i64 (st:Int),.int .i64 G.e,.slice na nn nc,.slice la l1 lc,.slice aa a1 ac,.slice ra' 0 rc']):=by
     rw [<-HTN.out,<-HM.out,<-HNN.out,<-HC5.out,<-HC6.out];rfl
    have HXH:Hid (∀ U:World,OX w U gb rb sb ⟨ta,tc,ra,rc⟩ G ⟨na,nc,la,lc,aa,ac,ra',rc'⟩ ⟨G.ts.length,(lfs G.rs).length,st,G.e,nmG G,G.ts.map (·.l),G.ts.map (·.a),[]⟩ []->U.heap[gb]?=some (.cells #[.slice ta tn tc,.string G.s,.int .i64 G.e,.slice ra rn rc] 25 (0,0))/\U.heap[sb]?=some (.cells #[.int .i64 (tn:Int),.int .i64 (m:Int),.int .i64 (st:Int),.int .i64 G.e,.slice na nn nc,.slice la l1 lc,.slice aa a1 ac,.slice ra' 0 rc'] 31 (0,0))):=fun U s=>by
     have h1:=s.gx
     have h2:=s.sx
     rw [HTN.out,HRN.out] at h1
     rw [HR8.out] at h2
     exact ⟨h1,h2⟩
    have HRC:Hid (∀ U:World,OX w U gb rb sb ⟨ta,tc,ra,rc⟩ G ⟨na,nc,la,lc,aa,ac,ra',rc'⟩ ⟨G.ts.length,(lfs G.rs).length,st,G.e,nmG G,G.ts.map (·.l),G.ts.map (·.a),[]⟩ []->Calls Tryz.prog 86 #[.agg #[.slice ta tn tc,.string G.s,.int .i64 G.e,.slice ra rn rc],.agg #[.int .i64 (tn:Int),.int .i64 (m:Int),.int .i64 (st:Int),.int .i64 G.e,.slice na nn nc,.slice la l1 lc,.slice aa a1 ac,.slice ra' 0 rc']] U fun e w'=>∃ ao c,e=.returned (.slice ao (rn+1) c)/\(∃ qs,OX w (w'.setCell ⟨sb,7,none⟩ (.slice ao (rn+1) c)) gb rb sb ⟨ta,tc,ra,rc⟩ G ⟨na,nc,la,lc,aa,ac,ao,c⟩ (spG G) qs)/\w'.cell? ⟨sb,7,none⟩=some (.slice ra' 0 rc')/\w'.frozen? ⟨sb,7,none⟩=false):=fun U s=>by
     have:=qi3 G ⟨ta,tc,ra,rc⟩ ⟨G.ts.length,(lfs G.rs).length,st,G.e,nmG G,G.ts.map (·.l),G.ts.map (·.a),[]⟩ ⟨na,nc,la,lc,aa,ac,ra',rc'⟩ U (HG.out.below s.bel) s.own.isSp ⟨rfl,rfl,rfl,rfl⟩ HMP.out HNP.out
     unfold gv at this
     rw [HR8.out] at this
     simp only at this
     rw [HTN.out,HRN.out] at this
     refine this.mono ?_
     rintro e w' ⟨ao,c,qs,rfl,⟨h1,h2,h3⟩,hB⟩
     have s':=s.step hB
     have e9:=s'.putRs (rs:=qs) (n:=rn+1) ao c (by have:=congrArg List.length h2;simp at this;rw [HRN.out] at this;exact this) (zd h1 s.bel.size) (fun q hq=>zd (h3 q hq) s.bel.size)
     refine ⟨ao,c,rfl,⟨qs,?_⟩,(box8 (HXH.out _ s').2).2.2.2.2.2.2.2,qi s'.sx 7⟩
     rw [h2,<-HSTN.out] at e9
     exact e9
    obtain ⟨bu,hbu⟩:=zr (yd (spG G))
    have HBU:Hid (bu=true↔yd (spG G)):=hbu
    clear hbu
    have HR9:Hid (∀ ao c,sC ⟨na,nc,la,lc,aa,ac,ao,c⟩ (spG G)=#[.int .i64 (tn:Int),.int .i64 (m:Int),.int .i64 (st:Int),.int .i64 G.e,.slice na nn nc,.slice la l1 lc,.slice aa a1 ac,.slice ao (rn+1) c]):=fun ao c=>by
     rw [<-HTN.out,<-HM.out,<-HNN.out,<-HC5.out,<-HC6.out,<-HSTN.out,<-HRN.out]
     unfold sC spG
     simp
    have HUC:Hid (∀ (U:World) ao c,IsSp U ⟨na,nc,la,lc,aa,ac,ao,c⟩ (spG G)->Calls Tryz.prog 87 #[.agg #[.int .i64 (tn:Int),.int .i64 (m:Int),.int .i64 (st:Int),.int .i64 G.e,.slice na nn nc,.slice la l1 lc,.slice aa a1 ac,.slice ao (rn+1) c]] U fun e w'=>e=.returned (.bool bu)/\Below U.heap.size U w'):=fun U ao c s=>by
     have:=qi4 U _ (spG G) (qei HMP.out HLN.out HNP.out) s bu HBU.out
     unfold sv at this
     rw [HR9.out] at this
     exact this
    obtain ⟨p0,p1,p2,p3⟩:=box4 (HXG.out V5 HX5.out).1
    obtain ⟨q0,q1,q2,q3,q4,q5,q6,q7⟩:=box8 (HXG.out V5 HX5.out).2
    go_upto_region 8 with fail
    go_region_with (first
     | (go_at_call 85;refine (HST.out _ (qd HX5.out.bel (qk _))).mono ?_;rintro e V6 ⟨rfl,hB6⟩;have HX6:Hid (OX w V6 gb rb sb ⟨ta,tc,ra,rc⟩ G ⟨na,nc,la,lc,aa,ac,ra',rc'⟩ (sy0 G) []):=(HX5.out.step (qk _)).step hB6;obtain ⟨y0,y1,y2,y3,y4,y5,y6,y7⟩:=box8 (HXG.out V6 HX6.out).2;obtain ⟨g0,g1,g2,g3,g4,g5,g6,g7⟩:=qa4 HX6.out.sx)
     | (go_at_call 84;refine (HIX.out _ (HRW.out _ HX6.out)).mono ?_;rintro e V7 ⟨rfl,rfl⟩))
    all_goals
     have HX8:Hid (OX w (V7.setCell ⟨sb,2,none⟩ (.int .i64 (st:Int))) gb rb sb ⟨ta,tc,ra,rc⟩ G ⟨na,nc,la,lc,aa,ac,ra',rc'⟩ ⟨G.ts.length,(lfs G.rs).length,st,G.e,nmG G,G.ts.map (·.l),G.ts.map (·.a),[]⟩ []):=HX6.out.putSt st
     generalize V7.setCell ⟨sb,2,none⟩ (.int .i64 (st:Int))=V8 at HX8 ⊢
     clear HX6 hB6 HX5 y0 y1 y2 y3 y4 y5 y6 y7 g0 g1 g2 g3 g4 g5 g6 g7 p0 p1 p2 p3 q0 q1 q2 q3 q4 q5 q6 q7 HST HIX HRW HXG
     obtain ⟨p0,p1,p2,p3⟩:=box4 (HXH.out V8 HX8.out).1
     obtain ⟨q0,q1,q2,q3,q4,q5,q6,q7⟩:=box8 (HXH.out V8 HX8.out).2
     go_wp2_with fail
     refine (HRC.out _ HX8.out).mono ?_
     rintro e V9 ⟨ao,c,rfl,hq,y7,g7⟩
     have HQ:Hid (∃ qs,OX w (V9.setCell ⟨sb,7,none⟩ (.slice ao (rn+1) c)) gb rb sb ⟨ta,tc,ra,rc⟩ G ⟨na,nc,la,lc,aa,ac,ao,c⟩ (spG G) qs):=hq
     clear hq HX8 HRC p0 p1 p2 p3 q0 q1 q2 q3 q4 q5 q6 q7
     go_upto_region 10 with fail
     generalize V9.setCell ⟨sb,7,none⟩ (.slice ao (rn+1) c)=VA at HQ ⊢
     clear y7 g7
     obtain ⟨qs,hq⟩:=HQ.out
     have HA:Hid (OX w VA gb rb sb ⟨ta,tc,ra,rc⟩ G ⟨na,nc,la,lc,aa,ac,ao,c⟩ (spG G) qs):=hq
     have hsx:=hq.sx
     rw [HR9.out] at hsx
     obtain ⟨q0,q1,q2,q3,q4,q5,q6,q7⟩:=box8 hsx
     clear hq HQ hsx
     go_wp2_with fail
     refine (HUC.out _ _ _ HA.out.own.isSp).mono ?_
     rintro e VB ⟨rfl,hBB⟩
     have HB:Hid (OX w VB gb rb sb ⟨ta,tc,ra,rc⟩ G ⟨na,nc,la,lc,aa,ac,ao,c⟩ (spG G) qs):=HA.out.step hBB
     clear HA hBB HUC q0 q1 q2 q3 q4 q5 q6 q7
     obtain ⟨z0,z1,z2,z3,z4,z5,z6,z7⟩:=box8 HB.out.rx
     obtain ⟨f0,f1,f2,f3,f4,f5,f6,f7⟩:=qa4 HB.out.rx
     have HF:Hid (∀ v0 v1 v2 v3 v4 v5 v6 v7,IsSp (set8 VB rb v0 v1 v2 v3 v4 v5 v6 v7) ⟨na,nc,la,lc,aa,ac,ao,c⟩ (spG G)/\Below w.heap.size w (set8 VB rb v0 v1 v2 v3 v4 v5 v6 v7)):=fun v0 v1 v2 v3 v4 v5 v6 v7=>⟨(HB.out.own.set8 ⟨_,HB.out.rx⟩).isSp,jd HB.out.bel HRB.out⟩
     have hsx:=HB.out.sx
     rw [HR9.out] at hsx
     obtain ⟨q0,q1,q2,q3,q4,q5,q6,q7⟩:=box8 hsx
     clear hsx
     cases bu
     case true =>
      have HKV:Hid (k=8):=by
       have hu:yd (spG G):=HBU.out.1 rfl
       rcases HK.out with e | e | e | e | e
       ·exact absurd HMP.out e.2
       ·exact absurd e.2.2 HLN.out
       ·exact absurd HNP.out e.2.2.2
       ·exact e.1
       ·exact absurd hu e.2.2.2.2
      go_wp2_with fail
      refine bodyPost_ret (v:=.tuple #[.agg zC,.int .i64 8]) (by unfold zC sC;simp [results,Tryz.results73,go_sem, *]) rfl ?_
      exact ⟨.inl ⟨by rw [HKV.out];decide,by rw [HKV.out]⟩,(HF.out _ _ _ _ _ _ _ _).2⟩
     case false =>
      have HKV:Hid (k=0):=by
       have hu:¬ yd (spG G):=fun e=>by have:=HBU.out.2 e;cases this
       rcases HK.out with e | e | e | e | e
       ·exact absurd HMP.out e.2
       ·exact absurd e.2.2 HLN.out
       ·exact absurd HNP.out e.2.2.2
       ·exact absurd e.2.2.2.2 hu
       ·exact e.1
      go_wp2_with fail
      refine bodyPost_ret (v:=.tuple #[.agg #[.int .i64 (tn:Int),.int .i64 (m:Int),.int .i64 (st:Int),.int .i64 G.e,.slice na nn nc,.slice la l1 lc,.slice aa a1 ac,.slice ao (rn+1) c],.int .i64 0]) (by simp [results,Tryz.results73,go_sem, *]) rfl ?_
      exact ⟨.inr ⟨HKV.out,⟨na,nc,la,lc,aa,ac,ao,c⟩,by unfold sv;rw [HR9.out],(HF.out _ _ _ _ _ _ _ _).1⟩,(HF.out _ _ _ _ _ _ _ _).2⟩
structure RY (w W:World) (h:SHd) (S:Sp) (b1 yb n:Nat) (fd:List Bool):Prop where
 bel:Below w.heap.size w W
 bs:W.heap[b1]?=some (.cells (sC h S) 31 (0,0))
 own:W.ownsRow w.heap.size 4 1 (.slice (some ⟨yb,0,none⟩) n n) n (booC fd)
 len:fd.length=n
theorem RY.cell {w W:World} {h:SHd} {S:Sp} {b1 yb n:Nat} {fd:List Bool} (y:RY w W h S b1 yb n fd) {x:Nat} (hx:x<n):W.cell? ⟨yb,x,none⟩=some (.bool (isF fd x))/\W.frozen? ⟨yb,x,none⟩=false:=by
 refine ⟨?_,y.own.frozenAt x⟩
 rw [y.own.cellAt x (by omega)]
 unfold booC
 rw [List.getElem?_map,vm (by rw [y.len];exact hx)]
 rfl
theorem RY.set {w W:World} {h:SHd} {S:Sp} {b1 yb n:Nat} {fd:List Bool} (y:RY w W h S b1 yb n fd) (x:Nat):RY w (W.setCell ⟨yb,x,none⟩ (.bool true)) h S b1 yb n (fd.set x true):=by
 have hl:=qw y.own (b:=yb) rfl
 refine ⟨y.bel.setCell (p:=⟨yb,x,none⟩) hl.1 _,?_,?_,by rw [List.length_set];exact y.len⟩
 ·exact (Below.heap_setCell _ _ _ _ (show b1≠yb from qr ⟨_,y.bs⟩ hl.2.2 (by decide))).trans y.bs
 ·rw [qdd]
  exact (y.own.stored x (.bool true)).1
def nF (fd:List Bool):Nat:=fd.countP (fun b=>!b)
theorem qkc:∀ {fd:List Bool} {x:Nat},x<fd.length->isF fd x=false->nF (fd.set x true)+1=nF fd
 | [],_,h,_=>absurd h (Nat.not_lt_zero _)
 | b :: r,0,_,hf=>by
  have hb:b=false:=hf
  subst hb
  simp [nF]
 | b :: r,x+1,h,hf=>by
  have ih:=qkc (fd:=r) (x:=x) (by simpa using h) hf
  unfold nF at ih ⊢
  rw [List.set_cons_succ,List.countP_cons,List.countP_cons]
  omega
theorem qqx (fd:List Bool):nF fd<=fd.length:=List.countP_le_length
def CloY (S:Sp) (i:Nat) (fd:List Bool):Prop:=∀ (j:Nat) (r:SR) (x:Nat),0<j->j<i->S.rs[j]?=some r->r.l=(x:Int)->(∀ y∈r.r,isF fd y=true)->isF fd x=true
def CloR (S:Sp) (i:Nat) (fd:List Bool):Prop:=∀ (j:Nat) (r:SR) (x y:Nat),0<j->j<i->S.rs[j]?=some r->r.l=(x:Int)->isF fd x=true->y∈r.r->isF fd y=true
theorem qoo {S:Sp} {i:Nat} {fd:List Bool} {r:SR} {x:Nat} (h:CloY S i fd) (hr:S.rs[i]?=some r) (hl:r.l=(x:Int)) (hx:(∀ y∈r.r,isF fd y=true)->isF fd x=true):CloY S (i+1) fd:=by
 intro j q z h0 h1 hq hz ha
 rcases Nat.lt_or_ge j i with h2 | h2
 ·exact h j q z h0 h2 hq hz ha
 ·have:j=i:=by omega
  subst this
  rw [hr] at hq
  cases hq
  rw [hl] at hz
  have:x=z:=by omega
  subst this
  exact hx ha
theorem qia {S:Sp} {i:Nat} {fd:List Bool} {r:SR} {x:Nat} (h:CloR S i fd) (hr:S.rs[i]?=some r) (hl:r.l=(x:Int)) (hx:isF fd x=true->∀ y∈r.r,isF fd y=true):CloR S (i+1) fd:=by
 intro j q z y h0 h1 hq hz hf hy
 rcases Nat.lt_or_ge j i with h2 | h2
 ·exact h j q z y h0 h2 hq hz hf hy
 ·have:j=i:=by omega
  subst this
  rw [hr] at hq
  cases hq
  rw [hl] at hz
  have:x=z:=by omega
  subst this
  exact hx hf y hy
def Upto (l:List Nat) (fd:List Bool) (k:Nat):Prop:=∀ (j y:Nat),j<k->l[j]?=some y->isF fd y=true
theorem qkd {l:List Nat} {fd:List Bool}:Upto l fd l.length↔∀ y∈l,isF fd y=true:=by
 constructor
 ·intro h y hy
  obtain ⟨j,hj⟩:=List.getElem?_of_mem hy
  exact h j y (List.getElem?_eq_some_iff.1 hj).1 hj
 ·intro h j y _ hy
  exact h y (List.mem_of_getElem? hy)
theorem qel {l:List Nat} {fd:List Bool} {k z:Nat} (hz:l[k]?=some z):Upto l fd (k+1)↔(Upto l fd k/\isF fd z=true):=by
 constructor
 ·intro h
  exact ⟨fun j y hj hy=>h j y (by omega) hy,h k z (by omega) hz⟩
 ·rintro ⟨h1,h2⟩ j y hj hy
  rcases Nat.lt_or_ge j k with h | h
  ·exact h1 j y h hy
  ·have:j=k:=by omega
   subst this
   rw [hz] at hy
   cases hy
   exact h2
theorem qib (l:List Nat) (fd:List Bool):Upto l fd 0:=fun _ _ h=>absurd h (Nat.not_lt_zero _)
theorem qhp (n x:Nat):isF (List.replicate n false) x=false:=by
 unfold isF
 cases hq:(List.replicate n false)[x]? with
 | none=>rfl
 | some b =>
  have:=List.mem_of_getElem? hq
  rw [List.mem_replicate] at this
  rw [this.2]
  rfl
theorem qgr (V:World) (base n:Nat) (hn:n<=1000) (hb:base<=V.heap.size):∃ V',(Instr.makeSlice 41 (.int .i64 (n:Int)) (.int .i64 (n:Int))).run Tryz.prog V=.ok (.slice (some ⟨V.heap.size,0,none⟩) n n) V'/\V'.ownsRow base 4 1 (.slice (some ⟨V.heap.size,0,none⟩) n n) n (booC (List.replicate n false))/\Below V.heap.size V V':=by
 obtain ⟨i0,hi,hz0,hz1,hz2⟩:=info_parts i4
 obtain ⟨w1,hr,ho,hg⟩:=run_make_full (P:=Tryz.prog) V base 41 4 i0 _ 1 u51 hi hz0 hz1 .i64 .i64 n (by rw [hz2];omega) (by unfold maxLen;omega) hb
 rw [qfn] at ho
 exact ⟨w1,hr,ho,(Below.refl V.heap.size V).grown hg (Nat.le_refl _) (fun k hk=>by cases hk)⟩
def RRs (w W:World) (h:SHd) (S:Sp) (b1 yb n:Nat) (fd:List Bool):Prop:=RY w W h S b1 yb n fd/\qd7 S fd/\isF fd S.st=true
theorem qhq (w:World) (h:SHd) (S:Sp) (n:Nat) (hnn:n=S.tk+1+S.nt) (hwf:WF S) (hsp:IsSp w h S) :
  Calls Tryz.prog 16 #[sv h S] w fun e w'=>BRes w w' n (Rch S) e:=by
 have hn:n<=1000:=by have:=hwf.tk;have:=hwf.nt;omega
 have hrn:S.rs.length<=300:=hwf.nr
 have hr0:1<=S.rs.length:=by have:=(List.getElem?_eq_some_iff.1 hwf.hd).1;omega
 have HWF:Hid (WF S/\IsSp w h S/\n=S.tk+1+S.nt):=⟨hwf,hsp,hnn⟩
 have hB0:Below w.heap.size w (w.alloc (.cells (sC h S) 31)):=qb _ _
 have hs0:(w.alloc (.cells (sC h S) 31)).heap[w.heap.size]?=some (.cells (sC h S) 31 (0,0)):=heap_alloc_new _ _
 have htk:S.tk<=100:=hwf.tk
 have hnt:S.nt<=200:=hwf.nt
 obtain ⟨rb,ro,-,-,hra,-⟩:=hsp.rl.at hwf.hd
 have HRA:Hid (h.ra=some ⟨rb,ro,none⟩):=hra
 have hrc:=j6 hsp.rl
 clear hwf hsp hnn
 unfold sv sC
 rw [hra]
 clear hra
 obtain ⟨rn,HRN⟩:∃ rn,Hid (S.rs.length=rn):=⟨_,rfl⟩
 rw [HRN.out] at hrn hr0 hrc ⊢
 go_enter Tryz.func16,Tryz.ntmps16
 go_upto_region 1 with fail
 have e0:w.alloc (.cells #[.int .i64 (S.tk:Int),.int .i64 (S.nt:Int),.int .i64 (S.st:Int),.int .i64 S.ex,.slice h.na S.nm.length h.nc,.slice h.la S.lv.length h.lc,.slice h.aa S.az.length h.ac,.slice (some ⟨rb,ro,none⟩) rn h.rc] 31)=w.alloc (.cells (sC h S) 31):=by unfold sC;rw [HRA.out,HRN.out]
 rw [e0]
 generalize w.alloc (.cells (sC h S) 31)=W0 at hB0 hs0 ⊢
 obtain ⟨b1,HB1⟩:∃ b1,Hid (b1=w.heap.size):=⟨_,rfl⟩
 rw [<-HB1.out] at hs0 ⊢
 obtain ⟨c0,c1,-,-,-,-,-,-⟩:=sbox hs0
 have hst:S.st<n:=by have:=HWF.out.1.st;have:=HWF.out.2.2;omega
 obtain ⟨W1,hr,ho,hB1⟩:=qgr W0 w.heap.size n hn hB0.size
 have HY0:Hid (RY w W1 h S b1 W0.heap.size n (List.replicate n false)):=⟨qd hB0 hB1,qf hB1 hs0,ho,by simp⟩
 have en:(n:Int)=(S.tk:Int)+1+(S.nt:Int):=by have:=HWF.out.2.2;omega
 rw [en] at hr
 clear e0 hB0 hs0 ho hB1 HB1 en
 go_upto_region 2 with fail
 clear hr c0 c1
 generalize W0.heap.size=yb at HY0 ⊢
 obtain ⟨-,-,c2,-,-,-,-,-⟩:=sbox HY0.out.bs
 obtain ⟨d0,f0⟩:=HY0.out.cell hst
 rw [qhp] at d0
 have hst':(S.st:Int)<(n:Int):=by omega
 have H8:Hid (∃ fd,RRs w (W1.setCell ⟨yb,S.st,none⟩ (.bool true)) h S b1 yb n fd):=by
  have hl:S.st<(List.replicate n false).length:=by rw [HY0.out.len];exact hst
  refine ⟨_,HY0.out.set S.st,fun x hx=>?_,by rw [k8 hl,if_pos rfl]⟩
  rw [k8 hl] at hx
  split at hx
  ·rename_i e
   subst e
   exact Rch.start
  ·rw [qhp] at hx
   cases hx
 clear HY0
 go_upto_region 3 with fail
 generalize W1.setCell ⟨yb,S.st,none⟩ (.bool true)=w8 at H8 ⊢
 clear c2 d0 f0
 go_wp2_with fail
 go_loopg [4] (n+1) (fun kx s4 wr=>∃ b:Bool,s4=.bool b/\Hid (∃ fd,RRs w wr h S b1 yb n fd/\(b=false->CloR S rn fd)/\(b=true->nF fd+1<=kx)))
 case atStart =>
  obtain ⟨fd,y⟩:=H8.out
  exact ⟨true,rfl,(⟨fd,y,(fun e=>by cases e),fun _=>by have:=qqx fd;rw [y.1.len] at this;omega⟩:∃ fd,RRs w w8 h S b1 yb n fd/\(true=false->CloR S rn fd)/\(true=true->nF fd+1<=n+1))⟩
 case round =>
  clear H8
  obtain ⟨b,rfl,J⟩:=hrel
  obtain ⟨fd0,y0,hb0,hb1⟩:=J.out
  cases b
  ·have HF:Hid (BRes w wr n (Rch S) (.returned (.slice (some ⟨yb,0,none⟩) n n))):=by
    refine ⟨yb,fd0,rfl,y0.1.len,y0.1.own,?_,y0.1.bel⟩
    have hc:=hb0 rfl
    rw [<-HRN.out] at hc
    exact qey (fun i r x y h0 hr hl hx hy=>hc i r x y h0 (List.getElem?_eq_some_iff.1 hr).1 hr hl hx hy) y0.2.1 y0.2.2
   clear y0 hb0 hb1 J
   go_wp2_with fail
   go_ret
   exact HF.out
  ·obtain ⟨cc,HCC⟩:∃ cc,Hid (nF fd0=cc):=⟨_,rfl⟩
   have hcg:cc+1<=gk:=by rw [<-HCC.out];exact hb1 rfl
   have HY0:Hid (RRs w wr h S b1 yb n fd0):=y0
   clear y0 hb0 hb1 J
   obtain ⟨wo,hwo⟩:∃ wo,wo=wr:=⟨_,rfl⟩
   subst wr
   go_wp2_with fail
   go_loopg [4,5] rn (fun kx s4 s5 wr=>∃ (b:Bool) (i:Nat),s4=.bool b/\s5=.int .i64 i/\1<=i/\i<=rn/\rn - i<=kx/\Hid (∃ fd,RRs w wr h S b1 yb n fd/\(b=false->CloR S i fd/\nF fd<=cc)/\(b=true->nF fd+1<=cc)))
   case atStart=>exact ⟨false,1,rfl,rfl,Nat.le_refl _,hr0,by omega,(⟨fd0,HY0.out,fun _=>⟨fun j r x y h0 h1=>by omega,by rw [HCC.out];exact Nat.le_refl _⟩,(fun e=>by cases e)⟩:∃ fd,RRs w wo h S b1 yb n fd/\(false=false->CloR S 1 fd/\nF fd<=cc)/\(false=true->nF fd+1<=cc))⟩
   case round =>
    clear HY0
    obtain ⟨b,i,rfl,rfl,hi1,hi,hg2,J⟩:=hrel
    obtain ⟨fd,y,hbf,hbt⟩:=J.out
    obtain ⟨-,-,-,-,-,-,-,c7⟩:=sbox y.1.bs
    rw [HRA.out,HRN.out] at c7
    by_cases hlt:i<rn
    ·have hlt':(i:Int)<(rn:Int):=by omega
     obtain ⟨r,hr⟩:∃ r,S.rs[i]?=some r:=⟨S.rs[i]'(by rw [HRN.out];exact hlt),List.getElem?_eq_getElem _⟩
     obtain ⟨rb2,ro2,xa,xc,hra,d0,d1,-,-,hxr⟩:=HWF.out.2.1.rl.at hr
     rw [HRA.out] at hra
     cases hra
     have hxc:=ze hxr
     have hrl:r.r.length<=100:=(HWF.out.1.rr r (List.mem_of_getElem? hr)).1
     obtain ⟨xl,hxl,hxt,hxn⟩:=HWF.out.1.rl i r (by omega) hr
     rw [<-HWF.out.2.2] at hxn
     rw [hxl] at d0
     obtain ⟨rl,HRL⟩:∃ rl,Hid (r.r.length=rl):=⟨_,rfl⟩
     rw [HRL.out] at d1 hrl hxc
     have HR:Hid (S.rs[i]?=some r/\Row w 1 xa r.r.length xc (natC r.r)/\r.l=(xl:Int)/\w.cell? ⟨rb,ro+i * 4,none⟩=some (.int .i64 (xl:Int))/\w.cell? ⟨rb,ro+i * 4+1,none⟩=some (.slice xa rl xc)):=⟨hr,hxr,hxl,d0,d1⟩
     have HY:Hid (∃ fd,RRs w wr h S b1 yb n fd/\(b=false->CloR S i fd/\nF fd<=cc)/\(b=true->nF fd+1<=cc)/\Upto r.r fd 0):=⟨fd,y,hbf,hbt,qib _ _⟩
     clear y hbf hbt J hr hxr hxl d0 d1
     obtain ⟨wi,hwi⟩:∃ wi,wi=wr:=⟨_,rfl⟩
     subst wr
     have hxn':(xl:Int)<(n:Int):=by omega
     go_wp2_with fail
     clear c7
     go_loopg [4,6] rl (fun kx s4 s6 wr=>∃ (b:Bool) (k:Nat),s4=.bool b/\s6=.int .i64 k/\k<=rl/\rl - k<=kx/\Hid (∃ fd,RRs w wr h S b1 yb n fd/\(b=false->CloR S i fd/\nF fd<=cc)/\(b=true->nF fd+1<=cc)/\Upto r.r fd k))
     case atStart=>exact ⟨b,0,rfl,rfl,Nat.zero_le _,by omega,HY⟩
     case round =>
      clear HY
      obtain ⟨b3,k,rfl,rfl,hk,hg3,K⟩:=hrel
      obtain ⟨fd,y,hbf,hbt,hup⟩:=K.out
      obtain ⟨-,-,-,-,-,-,-,c7⟩:=sbox y.1.bs
      rw [HRA.out,HRN.out] at c7
      have d0:=qj y.1.bel HR.out.2.2.2.1
      have d1:=qj y.1.bel HR.out.2.2.2.2
      obtain ⟨q2,-⟩:=y.1.cell hxn
      have HY:Hid (RRs w wr h S b1 yb n fd/\(b3=false->CloR S i fd/\nF fd<=cc)/\(b3=true->nF fd+1<=cc)/\Upto r.r fd k):=⟨y,hbf,hbt,hup⟩
      clear y hbf hbt hup K
      obtain ⟨bx,HBX⟩:∃ bx,Hid (isF fd xl=bx):=⟨_,rfl⟩
      rw [HBX.out] at q2
      cases bx
      ·have HF:Hid (∃ fd,RRs w wr h S b1 yb n fd/\(b3=false->CloR S (i+1) fd/\nF fd<=cc)/\(b3=true->nF fd+1<=cc)):=⟨fd,HY.out.1,fun e=>⟨qia (HY.out.2.1 e).1 HR.out.1 HR.out.2.2.1 (fun hx=>by rw [HBX.out] at hx;cases hx),(HY.out.2.1 e).2⟩,HY.out.2.2.1⟩
       go_wp2_with fail
       go_roundg (rn - (i+1))
       case measure=>omega
       case rel=>exact ⟨b3,i+1,rfl,by simp,by omega,by omega,Nat.le_refl _,HF⟩
      ·by_cases hklt:k<rl
       ·have hklt':(k:Int)<(rl:Int):=by omega
        obtain ⟨z,hz⟩:∃ z,r.r[k]?=some z:=⟨r.r[k]'(by rw [HRL.out];exact hklt),List.getElem?_eq_getElem _⟩
        obtain ⟨b2,o2,hxa,q1⟩:=vj (HR.out.2.1.below HY.out.1.1.bel) hz
        subst hxa
        have hzn:z<n:=by rw [HWF.out.2.2];exact (HWF.out.1.rr r (List.mem_of_getElem? HR.out.1)).2 z (List.mem_of_getElem? hz)
        obtain ⟨q3,f3⟩:=HY.out.1.1.cell hzn
        have HZ:Hid (r.r[k]?=some z):=hz
        obtain ⟨bz,HBZ⟩:∃ bz,Hid (isF fd z=bz):=⟨_,rfl⟩
        rw [HBZ.out] at q3
        have hzn':(z:Int)<(n:Int):=by omega
        clear hz
        cases bz
        ·have HF:Hid (∃ fd,RRs w (wr.setCell ⟨yb,z,none⟩ (.bool true)) h S b1 yb n fd/\nF fd+1<=cc/\Upto r.r fd (k+1)):=by
          have hl:z<fd.length:=by rw [HY.out.1.1.len];exact hzn
          refine ⟨fd.set z true,⟨HY.out.1.1.set z,fun x hx=>?_,qbz hl HY.out.1.2.2⟩,?_,(qel HZ.out).2 ⟨fun j y hj hy=>qbz hl (HY.out.2.2.2 j y hj hy),by rw [k8 hl,if_pos rfl]⟩⟩
          ·rw [k8 hl] at hx
           split at hx
           ·rename_i e
            subst e
            exact Rch.rule i r xl x (by omega) HR.out.1 HR.out.2.2.1 (HY.out.1.2.1 xl HBX.out) (List.mem_of_getElem? HZ.out)
           ·exact HY.out.1.2.1 x hx
          ·have:=qkc hl HBZ.out
           cases b3
           ·have:=(HY.out.2.1 rfl).2;omega
           ·have:=HY.out.2.2.1 rfl;omega
         go_wp2_with fail
         go_roundg (rl - (k+1))
         case measure=>omega
         case rel =>
          obtain ⟨fd2,s1,s2,s3⟩:=HF.out
          exact ⟨true,k+1,rfl,by simp,by omega,Nat.le_refl _,(⟨fd2,s1,(fun e=>by cases e),fun _=>s2,s3⟩:∃ fd,RRs w (wr.setCell ⟨yb,z,none⟩ (.bool true)) h S b1 yb n fd/\(true=false->CloR S i fd/\nF fd<=cc)/\(true=true->nF fd+1<=cc)/\Upto r.r fd (k+1))⟩
        ·have HF:Hid (∃ fd,RRs w wr h S b1 yb n fd/\(b3=false->CloR S i fd/\nF fd<=cc)/\(b3=true->nF fd+1<=cc)/\Upto r.r fd (k+1)):=⟨fd,HY.out.1,HY.out.2.1,HY.out.2.2.1,(qel HZ.out).2 ⟨HY.out.2.2.2,HBZ.out⟩⟩
         go_wp2_with fail
         go_roundg (rl - (k+1))
         case measure=>omega
         case rel=>exact ⟨b3,k+1,rfl,by simp,by omega,Nat.le_refl _,HF⟩
       ·have hklt':¬ (k:Int)<(rl:Int):=by omega
        have HF:Hid (∃ fd,RRs w wr h S b1 yb n fd/\(b3=false->CloR S (i+1) fd/\nF fd<=cc)/\(b3=true->nF fd+1<=cc)):=by
         have h1:=HY.out.2.2.2
         have:k=r.r.length:=by rw [HRL.out];omega
         rw [this] at h1
         exact ⟨fd,HY.out.1,fun e=>⟨qia (HY.out.2.1 e).1 HR.out.1 HR.out.2.2.1 (fun _=>qkd.1 h1),(HY.out.2.1 e).2⟩,HY.out.2.2.1⟩
        go_wp2_with fail
        go_roundg (rn - (i+1))
        case measure=>omega
        case rel=>exact ⟨b3,i+1,rfl,by simp,by omega,by omega,Nat.le_refl _,HF⟩
    ·have hlt':¬ (i:Int)<(rn:Int):=by omega
     have HF:Hid (∃ fd,RRs w wr h S b1 yb n fd/\(b=false->CloR S rn fd)/\(b=true->nF fd+1<=cc)):=by
      have:i=rn:=by omega
      subst this
      exact ⟨fd,y,fun e=>(hbf e).1,hbt⟩
     clear y hbf hbt J
     go_wp2_with fail
     go_roundg cc
     case measure=>omega
     case rel=>exact ⟨b,rfl,HF⟩
def RYs (w W:World) (h:SHd) (S:Sp) (b1 yb n:Nat) (fd:List Bool):Prop:=RY w W h S b1 yb n fd/\Toks S fd/\yo S fd
theorem qi5 (w:World) (h:SHd) (S:Sp) (n:Nat) (hnn:n=S.tk+1+S.nt) (hwf:WF S) (hsp:IsSp w h S) :
  Calls Tryz.prog 15 #[sv h S] w fun e w'=>BRes w w' n (Der S) e:=by
 have hn:n<=1000:=by have:=hwf.tk;have:=hwf.nt;omega
 have hrn:S.rs.length<=300:=hwf.nr
 have hr0:1<=S.rs.length:=by have:=(List.getElem?_eq_some_iff.1 hwf.hd).1;omega
 have HWF:Hid (WF S/\IsSp w h S/\n=S.tk+1+S.nt):=⟨hwf,hsp,hnn⟩
 have hB0:Below w.heap.size w (w.alloc (.cells (sC h S) 31)):=qb _ _
 have hs0:(w.alloc (.cells (sC h S) 31)).heap[w.heap.size]?=some (.cells (sC h S) 31 (0,0)):=heap_alloc_new _ _
 have htk:S.tk<=100:=hwf.tk
 have hnt:S.nt<=200:=hwf.nt
 obtain ⟨rb,ro,-,-,hra,-⟩:=hsp.rl.at hwf.hd
 have HRA:Hid (h.ra=some ⟨rb,ro,none⟩):=hra
 have hrc:=j6 hsp.rl
 clear hwf hsp hnn
 unfold sv sC
 rw [hra]
 clear hra
 obtain ⟨rn,HRN⟩:∃ rn,Hid (S.rs.length=rn):=⟨_,rfl⟩
 rw [HRN.out] at hrn hr0 hrc ⊢
 go_enter Tryz.func15,Tryz.ntmps15
 go_upto_region 1 with fail
 have e0:w.alloc (.cells #[.int .i64 (S.tk:Int),.int .i64 (S.nt:Int),.int .i64 (S.st:Int),.int .i64 S.ex,.slice h.na S.nm.length h.nc,.slice h.la S.lv.length h.lc,.slice h.aa S.az.length h.ac,.slice (some ⟨rb,ro,none⟩) rn h.rc] 31)=w.alloc (.cells (sC h S) 31):=by unfold sC;rw [HRA.out,HRN.out]
 rw [e0]
 generalize w.alloc (.cells (sC h S) 31)=W0 at hB0 hs0 ⊢
 obtain ⟨b1,HB1⟩:∃ b1,Hid (b1=w.heap.size):=⟨_,rfl⟩
 rw [<-HB1.out] at hs0 ⊢
 obtain ⟨c0,c1,-,-,-,-,-,-⟩:=sbox hs0
 obtain ⟨W1,hr,ho,hB1⟩:=qgr W0 w.heap.size n hn hB0.size
 have HY0:Hid (RY w W1 h S b1 W0.heap.size n (List.replicate n false)):=⟨qd hB0 hB1,qf hB1 hs0,ho,by simp⟩
 have en:(n:Int)=(S.tk:Int)+1+(S.nt:Int):=by have:=HWF.out.2.2;omega
 rw [en] at hr
 clear e0 hB0 hs0 ho hB1 HB1 en
 go_upto_region 2 with fail
 clear hr c0 c1
 generalize W0.heap.size=yb at HY0 ⊢
 obtain ⟨c0,-,-,-,-,-,-,-⟩:=sbox HY0.out.bs
 go_upto_block 0 with fail
 clear c0
 go_cut [4] (fun s4 wd=>Hid (∃ fd,RYs w wd h S b1 yb n fd))
 case first =>
  go_wp2_with fail
  go_loopg [4] S.tk (fun kx s4 wr=>∃ k:Nat,s4=.int .i64 k/\k<=S.tk/\S.tk - k<=kx/\Hid (∃ fd,RY w wr h S b1 yb n fd/\(∀ x,x<k->isF fd x=true)/\∀ x,isF fd x=true->x<S.tk))
  case atStart=>exact ⟨0,rfl,Nat.zero_le _,by omega,(⟨_,HY0.out,fun x hx=>absurd hx (Nat.not_lt_zero _),fun x hx=>by rw [qhp] at hx;cases hx⟩:∃ fd,RY w W1 h S b1 yb n fd/\(∀ x,x<0->isF fd x=true)/\∀ x,isF fd x=true->x<S.tk)⟩
  case round =>
   clear HY0
   obtain ⟨k,rfl,hk,hg,J⟩:=hrel
   obtain ⟨fd,y,h1,h2⟩:=J.out
   obtain ⟨c0,-,-,-,-,-,-,-⟩:=sbox y.bs
   by_cases hlt:k<S.tk
   ·have hlt':(k:Int)<(S.tk:Int):=by omega
    have hkn:k<n:=by have:=HWF.out.2.2;omega
    obtain ⟨d0,f0⟩:=y.cell hkn
    have hl:k<fd.length:=by rw [y.len];exact hkn
    have HF:Hid (∃ fd,RY w (wr.setCell ⟨yb,k,none⟩ (.bool true)) h S b1 yb n fd/\(∀ x,x<k+1->isF fd x=true)/\∀ x,isF fd x=true->x<S.tk):=by
     refine ⟨_,y.set k,fun x hx=>?_,fun x hx=>?_⟩
     ·rw [k8 hl]
      split
      ·rfl
      ·exact h1 x (by omega)
     ·rw [k8 hl] at hx
      split at hx
      ·omega
      ·exact h2 x hx
    generalize isF fd k=bz at d0
    clear y h1 h2 J hl
    have hkn':(k:Int)<(n:Int):=by omega
    go_wp2_with fail
    go_roundg (S.tk - (k+1))
    case measure=>omega
    case rel=>exact ⟨k+1,by simp,by omega,Nat.le_refl _,HF⟩
   ·have hlt':¬ (k:Int)<(S.tk:Int):=by omega
    have HF:Hid (∃ fd,RYs w wr h S b1 yb n fd):=⟨fd,y,fun x hx=>h1 x (by omega),fun x hx=>Der.tok x (h2 x hx)⟩
    clear y h1 h2 J
    go_wp2_with fail
    go_meet
    exact HF
 case rest =>
  obtain ⟨w8,hw8⟩:∃ w8,w8=wc:=⟨_,rfl⟩
  subst wc
  clear HY0
  have H8:Hid (∃ fd,RYs w w8 h S b1 yb n fd):=hcut
  clear hcut
  go_wp2_with fail
  go_loopg [5] (n+1) (fun kx s5 wr=>∃ b:Bool,s5=.bool b/\Hid (∃ fd,RYs w wr h S b1 yb n fd/\(b=false->CloY S rn fd)/\(b=true->nF fd+1<=kx)))
  case atStart =>
   obtain ⟨fd,y⟩:=H8.out
   exact ⟨true,rfl,(⟨fd,y,(fun e=>by cases e),fun _=>by have:=qqx fd;rw [y.1.len] at this;omega⟩:∃ fd,RYs w w8 h S b1 yb n fd/\(true=false->CloY S rn fd)/\(true=true->nF fd+1<=n+1))⟩
  case round =>
   clear H8
   obtain ⟨b,rfl,J⟩:=hrel
   obtain ⟨fd0,y0,hb0,hb1⟩:=J.out
   cases b
   ·have HF:Hid (BRes w wr n (Der S) (.returned (.slice (some ⟨yb,0,none⟩) n n))):=by
     refine ⟨yb,fd0,rfl,y0.1.len,y0.1.own,?_,y0.1.bel⟩
     have hc:=hb0 rfl
     rw [<-HRN.out] at hc
     exact qex (fun i r x h0 hr hl ha=>hc i r x h0 (List.getElem?_eq_some_iff.1 hr).1 hr hl ha) y0.2.2 y0.2.1
    clear y0 hb0 hb1 J
    go_wp2_with fail
    go_ret
    exact HF.out
   ·obtain ⟨cc,HCC⟩:∃ cc,Hid (nF fd0=cc):=⟨_,rfl⟩
    have hcg:cc+1<=gk:=by rw [<-HCC.out];exact hb1 rfl
    have HY0:Hid (RYs w wr h S b1 yb n fd0):=y0
    clear y0 hb0 hb1 J
    obtain ⟨wo,hwo⟩:∃ wo,wo=wr:=⟨_,rfl⟩
    subst wr
    go_wp2_with fail
    go_loopg [5,6] rn (fun kx s5 s6 wr=>∃ (b:Bool) (i:Nat),s5=.bool b/\s6=.int .i64 i/\1<=i/\i<=rn/\rn - i<=kx/\Hid (∃ fd,RYs w wr h S b1 yb n fd/\(b=false->CloY S i fd/\nF fd<=cc)/\(b=true->nF fd+1<=cc)))
    case atStart=>exact ⟨false,1,rfl,rfl,Nat.le_refl _,hr0,by omega,(⟨fd0,HY0.out,fun _=>⟨fun j r x h0 h1=>by omega,by rw [HCC.out];exact Nat.le_refl _⟩,(fun e=>by cases e)⟩:∃ fd,RYs w wo h S b1 yb n fd/\(false=false->CloY S 1 fd/\nF fd<=cc)/\(false=true->nF fd+1<=cc))⟩
    case round =>
     clear HY0
     obtain ⟨b,i,rfl,rfl,hi1,hi,hg2,J⟩:=hrel
     obtain ⟨fd,y,hbf,hbt⟩:=J.out
     obtain ⟨-,-,-,-,-,-,-,c7⟩:=sbox y.1.bs
     rw [HRA.out,HRN.out] at c7
     by_cases hlt:i<rn
     ·have hlt':(i:Int)<(rn:Int):=by omega
      obtain ⟨r,hr⟩:∃ r,S.rs[i]?=some r:=⟨S.rs[i]'(by rw [HRN.out];exact hlt),List.getElem?_eq_getElem _⟩
      obtain ⟨rb2,ro2,xa,xc,hra,d0,d1,-,-,hxr⟩:=HWF.out.2.1.rl.at hr
      rw [HRA.out] at hra
      cases hra
      have d0:=qj y.1.bel d0
      have d1:=qj y.1.bel d1
      have hxc:=ze hxr
      have hrl:r.r.length<=100:=(HWF.out.1.rr r (List.mem_of_getElem? hr)).1
      obtain ⟨xl,hxl,hxt,hxn⟩:=HWF.out.1.rl i r (by omega) hr
      rw [<-HWF.out.2.2] at hxn
      rw [hxl] at d0
      have HR:Hid (S.rs[i]?=some r/\Row w 1 xa r.r.length xc (natC r.r)/\r.l=(xl:Int)):=⟨hr,hxr,hxl⟩
      have HY:Hid (RYs w wr h S b1 yb n fd/\(b=false->CloY S i fd/\nF fd<=cc)/\(b=true->nF fd+1<=cc)):=⟨y,hbf,hbt⟩
      clear y hbf hbt J hr hxr hxl
      obtain ⟨rl,HRL⟩:∃ rl,Hid (r.r.length=rl):=⟨_,rfl⟩
      rw [HRL.out] at d1 hrl hxc
      obtain ⟨wi,hwi⟩:∃ wi,wi=wr:=⟨_,rfl⟩
      subst wr
      go_wp2_with fail
      go_loopg [7,8] rl (fun kx s7 s8 wr=>∃ (a:Bool) (k:Nat),s7=.bool a/\s8=.int .i64 k/\k<=rl/\rl - k<=kx/\Hid (wr=wi/\(a=true↔Upto r.r fd k)))
      case atStart=>exact ⟨true,0,rfl,rfl,Nat.zero_le _,by omega,(⟨rfl,fun _=>qib _ _,fun _=>rfl⟩:wi=wi/\(true=true↔Upto r.r fd 0))⟩
      case round =>
       obtain ⟨a,k,rfl,rfl,hk,hg3,K⟩:=hrel
       obtain ⟨hwr,hup⟩:=K.out
       subst hwr
       have HU:Hid (a=true↔Upto r.r fd k):=hup
       clear K hup
       by_cases hklt:k<rl
       ·have hklt':(k:Int)<(rl:Int):=by omega
        obtain ⟨z,hz⟩:∃ z,r.r[k]?=some z:=⟨r.r[k]'(by rw [HRL.out];exact hklt),List.getElem?_eq_getElem _⟩
        obtain ⟨b2,o2,hxa,q1⟩:=vj (HR.out.2.1.below HY.out.1.1.bel) hz
        subst hxa
        have hzn:z<n:=by rw [HWF.out.2.2];exact (HWF.out.1.rr r (List.mem_of_getElem? HR.out.1)).2 z (List.mem_of_getElem? hz)
        obtain ⟨q2,-⟩:=HY.out.1.1.cell hzn
        have HZ:Hid (Upto r.r fd (k+1)↔(Upto r.r fd k/\isF fd z=true)):=qel hz
        obtain ⟨bz,HBZ⟩:∃ bz,Hid (isF fd z=bz):=⟨_,rfl⟩
        rw [HBZ.out] at q2
        have hzn':(z:Int)<(n:Int):=by omega
        clear hz
        cases a
        ·have HF:Hid (¬ Upto r.r fd (k+1)):=fun e=>by have:=HU.out.2 (HZ.out.1 e).1;cases this
         go_wp2_with fail
         go_roundg (rl - (k+1))
         case measure=>omega
         case rel=>exact ⟨false,k+1,rfl,by simp,by omega,Nat.le_refl _,(⟨rfl,(fun e=>by cases e),fun e=>absurd e HF.out⟩:wr=wr/\(false=true↔Upto r.r fd (k+1)))⟩
        ·have HF:Hid (bz=true↔Upto r.r fd (k+1)):=⟨fun e=>HZ.out.2 ⟨HU.out.1 rfl,by rw [HBZ.out];exact e⟩,fun e=>by rw [<-HBZ.out];exact (HZ.out.1 e).2⟩
         go_wp2_with fail
         go_roundg (rl - (k+1))
         case measure=>omega
         case rel=>exact ⟨bz,k+1,rfl,by simp,by omega,Nat.le_refl _,(⟨rfl,HF.out⟩:wr=wr/\(bz=true↔Upto r.r fd (k+1)))⟩
       ·have hklt':¬ (k:Int)<(rl:Int):=by omega
        have HA:Hid (a=true↔∀ y∈r.r,isF fd y=true):=by
         have:k=r.r.length:=by rw [HRL.out];omega
         have h1:=HU.out
         rw [this] at h1
         exact h1.trans qkd
        obtain ⟨q2,f2⟩:=HY.out.1.1.cell hxn
        have hxn':(xl:Int)<(n:Int):=by omega
        clear HU
        obtain ⟨bx,HBX⟩:∃ bx,Hid (isF fd xl=bx):=⟨_,rfl⟩
        rw [HBX.out] at q2
        have stay:(a=true->bx=true)->Hid (∃ fd,RYs w wr h S b1 yb n fd/\(b=false->CloY S (i+1) fd/\nF fd<=cc)/\(b=true->nF fd+1<=cc)):=fun hab=>⟨fd,HY.out.1,fun e=>⟨qoo (HY.out.2.1 e).1 HR.out.1 HR.out.2.2 (fun hall=>by rw [HBX.out];exact hab (HA.out.2 hall)),(HY.out.2.1 e).2⟩,HY.out.2.2⟩
        cases a
        ·have HF:=stay (fun e=>by cases e)
         clear stay
         go_wp2_with fail
         go_roundg (rn - (i+1))
         case measure=>omega
         case rel=>exact ⟨b,i+1,rfl,by simp,by omega,by omega,Nat.le_refl _,HF⟩
        ·cases bx
         ·have HF:Hid (∃ fd,RYs w (wr.setCell ⟨yb,xl,none⟩ (.bool true)) h S b1 yb n fd/\nF fd+1<=cc):=by
           have hl:xl<fd.length:=by rw [HY.out.1.1.len];exact hxn
           refine ⟨fd.set xl true,⟨HY.out.1.1.set xl,fun x hx=>qbz hl (HY.out.1.2.1 x hx),fun x hx=>?_⟩,?_⟩
           ·rw [k8 hl] at hx
            split at hx
            ·rename_i e
             subst e
             exact Der.rule i r x (by omega) HR.out.1 HR.out.2.2 (fun y hy=>HY.out.1.2.2 y (HA.out.1 rfl y hy))
            ·exact HY.out.1.2.2 x hx
           ·have:=qkc hl HBX.out
            cases b
            ·have:=(HY.out.2.1 rfl).2;omega
            ·have:=HY.out.2.2 rfl;omega
          clear stay
          go_wp2_with fail
          go_roundg (rn - (i+1))
          case measure=>omega
          case rel =>
           obtain ⟨fd2,s1,s2⟩:=HF.out
           exact ⟨true,i+1,rfl,by simp,by omega,by omega,Nat.le_refl _,(⟨fd2,s1,(fun e=>by cases e),fun _=>s2⟩:∃ fd,RYs w (wr.setCell ⟨yb,xl,none⟩ (.bool true)) h S b1 yb n fd/\(true=false->CloY S (i+1) fd/\nF fd<=cc)/\(true=true->nF fd+1<=cc))⟩
         ·have HF:=stay (fun _=>rfl)
          clear stay
          go_wp2_with fail
          go_roundg (rn - (i+1))
          case measure=>omega
          case rel=>exact ⟨b,i+1,rfl,by simp,by omega,by omega,Nat.le_refl _,HF⟩
     ·have hlt':¬ (i:Int)<(rn:Int):=by omega
      have HF:Hid (∃ fd,RYs w wr h S b1 yb n fd/\(b=false->CloY S rn fd)/\(b=true->nF fd+1<=cc)):=by
       have:i=rn:=by omega
       subst this
       exact ⟨fd,y,fun e=>(hbf e).1,hbt⟩
      clear y hbf hbt J
      go_wp2_with fail
      go_roundg cc
      case measure=>omega
      case rel=>exact ⟨b,rfl,HF⟩
theorem qem {W W':World} {sb b T E base k n c:Nat} {ao:Option Addr} {cs:List Value} {d:Array Value} (hk:Kept (fun k=>k=sb\/blk ao=some k) W W') (ho:W.ownsRow base E k (.slice ao n c) n cs) (hb:W.heap[b]?=some (.cells d T (0,0))) (hT:T≠E) (hn:b≠sb):W'.heap[b]?=some (.cells d T (0,0)):=by
 rw [hk.block b (Array.getElem?_eq_some_iff.1 hb).1 (fun e=>?_)]
 ·exact hb
 ·rcases e with e | e
  ·exact hn e
  ·exact qr ⟨_,hb⟩ (qw ho e).2.2 hT rfl
theorem SB.addTwo {w W:World} {sb:Nat} {h:SHd} {S:Sp} {qs:List (SR × Option Addr × Nat)} (s:SB w W sb h S qs) (x:ByteArray) (l:List ByteArray) (b o m c n:Nat) (en:S.nm.length=n) (hl:l.length=m) (hrow:Row w 1 (some ⟨b,o,none⟩) m c (strC l)) (hm:0<m) (hn:n+m<9000) :
  ∃ g c1 V1 ao c2 V2,(Builtin.append_ #[28,28] 28 #[.slice h.na n h.nc,.slice (some ⟨W.heap.size,0,none⟩) 1 1]).run Tryz.prog (W.alloc (.cells #[.string x] 9))=.ok (.slice (some ⟨g,0,none⟩) (n+1) c1) V1 /\
   (Builtin.append_ #[28,28] 28 #[.slice (some ⟨g,0,none⟩) (n+1) c1,.slice (some ⟨b,o,none⟩) m c]).run Tryz.prog V1=.ok (.slice ao (n+1+m) c2) V2 /\
   V2.heap[sb]?=some (.cells (sC h S) 31 (0,0))/\SB w (V2.setCell ⟨sb,4,none⟩ (.slice ao (n+1+m) c2)) sb ⟨ao,c2,h.la,h.lc,h.aa,h.ac,h.ra,h.rc⟩ ⟨S.tk,S.nt,S.st,S.ex,S.nm++x :: l,S.lv,S.az,S.rs⟩ qs /\
   ∀ (b' T:Nat) (d:Array Value),W.heap[b']?=some (.cells d T (0,0))->T≠9->b'≠sb->(V2.setCell ⟨sb,4,none⟩ (.slice ao (n+1+m) c2)).heap[b']?=some (.cells d T (0,0)):=by
 subst en
 obtain ⟨g,c1,V1,hr,ho,hk,hg⟩:=jc (us:=[.string x]) u28 i9 rfl (by decide) (by decide) rfl (fun u hu=>by rw [List.mem_singleton] at hu;subst hu;rfl) s.nm s.bel.size (by omega)
 have hk0:Kept (fun k=>blk h.na=some k) W V1:=((Kept.refl _ W).alloc _).trans hk (fun k _ e=>zi e)
 have hb1:Below w.heap.size w V1:=s.bel.trans (hk0.below s.bel.size (fun k hk e=>by have:=(qw s.nm e).1;omega))
 have hrow1:=hrow.below hb1
 obtain ⟨i0,hi,hz0,hz1,hz2⟩:=info_parts i9
 have hnews:∀ j u,(strC l)[j]?=some u->V1.cell? ((⟨b,o,none⟩:Addr).add j)=some u:=by
  intro j u hu
  obtain ⟨b',o',he,hc⟩:=hrow1.at (by omega)
  cases he
  rw [Addr.add_lit]
  exact hc j u hu
 have hone:∀ u∈strC l,u.oneCell'=true:=by
  intro u hu
  unfold strC at hu
  obtain ⟨y,-,rfl⟩:=List.mem_map.1 hu
  rfl
 have hlen:(strC l).length=m * 1:=by unfold strC;rw [List.length_map,hl,Nat.mul_one]
 have hbase:w.heap.size<=V1.heap.size:=hb1.size
 obtain ⟨v',V2,hr2,h2,h3,-⟩:=run_append_own (P:=Tryz.prog) V1 w.heap.size 28 28 9 i0 _ 1 16 u28 hi hz0 hz1 hz2 rfl (by decide) _ _ _ ho ⟨b,o,none⟩ m c (strC l) hlen hnews hone (by unfold maxLen;omega) (by omega) hbase
 obtain ⟨v1,w1,hr1,-,hk1,hl1⟩:=qai (P:=Tryz.prog) V1 28 28 9 i0 _ 1 16 u28 hi hz0 hz1 hz2 rfl (by decide) _ _ _ (zd ho (Nat.zero_le _)) ⟨b,o,none⟩ m c (strC l) hlen hnews hone (by unfold maxLen;omega) (by omega)
 rw [hr2] at hr1
 injection hr1 with e1 e2
 subst e1 e2
 obtain ⟨ao,c2,rfl,h4,h5,h6⟩:=zh h2
 have hkk:Kept (fun k=>blk h.na=some k) W V2:=hk0.trans hk1 (fun i hi e=>by
  have e:g=i:=Option.some.inj e
  subst e
  rcases hg with h7 | h7
  ·exact zi h7
  ·omega)
 have stay:∀ {E k n:Nat} {v:Value} {cs:List Value},W.ownsRow w.heap.size E k v n cs->E≠9->V2.ownsRow w.heap.size E k v n cs:=fun ho hE=>j8 ho hkk (fun i hi e=>qr (qx ho hi) (qw s.nm e).2.2 hE rfl)
 have hbox:V2.heap[sb]?=some (.cells (sC h S) 31 (0,0)):=by
  rw [hkk.block sb (Array.getElem?_eq_some_iff.1 s.box).1 (fun e=>qr ⟨_,s.box⟩ (qw s.nm e).2.2 (by decide) rfl)]
  exact s.box
 have hks:Kept (fun k=>k=sb\/blk h.na=some k) W (V2.setCell ⟨sb,4,none⟩ (.slice ao (S.nm.length+1+m) c2)):=Kept.setCell (hkk.weaken (fun k e=>.inr e)) _ _ (fun _=>.inl rfl)
 refine ⟨g,c1,V1,ao,c2,V2,hr,hr2,hbox,⟨?_,?_,zl (stay s.lv (by decide)) hbox (by decide),zl (stay s.az (by decide)) hbox (by decide),zl (stay s.rl (by decide)) hbox (by decide),s.map,fun q hq=>zl (stay (s.row q hq) (by decide)) hbox (by decide),s.dis,?_,s.new⟩,fun b' T d hb hT hne=>qem hks s.nm hb hT hne⟩
 ·rw [ye hbox]
  unfold sC
  simp
  omega
 ·have e:strC (S.nm++x :: l)=strC S.nm++[.string x]++strC l:=by unfold strC;rw [List.map_append];simp
  have e2:(S.nm++x :: l).length=S.nm.length+1+m:=by rw [List.length_append,List.length_cons,hl];omega
  simp only [e,e2]
  exact zl h2 hbox (by decide)
 ·refine (s.bel.trans (hkk.below s.bel.size (fun k hk e=>?_))).setCell (p:=⟨sb,4,none⟩) s.new _
  have:=(qw s.nm e).1
  omega
structure SY (w W:World) (gb rb sb:Nat) (h:Hd) (G:Gm) (h':SHd) (S:Sp) (qs:List (SR × Option Addr × Nat)):Prop where
 sp:SB w W sb h' S qs
 gx:W.heap[gb]?=some (.cells #[.slice h.ta G.ts.length h.tc,.string G.s,.int .i64 G.e,.slice h.ra G.rs.length h.rc] 25 (0,0))
 rx:W.heap[rb]?=some (.cells zC 31 (0,0))
 ne:rb≠sb
theorem SY.step {w W W':World} {gb rb sb:Nat} {h:Hd} {G:Gm} {h':SHd} {S:Sp} {qs:List (SR × Option Addr × Nat)} (s:SY w W gb rb sb h G h' S qs) (hb:Below W.heap.size W W'):SY w W' gb rb sb h G h' S qs :=
 ⟨s.sp.step hb,qf hb s.gx,qf hb s.rx,s.ne⟩
theorem SX.two {w W:World} {gb rb sb:Nat} {h:Hd} {G:Gm} {h':SHd} {S:Sp} (s:SX w W gb rb sb h G h' S) (x:ByteArray) (l:List ByteArray) (b o m c n:Nat) (en:S.nm.length=n) (hl:l.length=m) (hrow:Row w 1 (some ⟨b,o,none⟩) m c (strC l)) (hm:0<m) (hn:n+m<9000) :
  ∃ g c1 V1 ao c2 V2,(Builtin.append_ #[28,28] 28 #[.slice h'.na n h'.nc,.slice (some ⟨W.heap.size,0,none⟩) 1 1]).run Tryz.prog (W.alloc (.cells #[.string x] 9))=.ok (.slice (some ⟨g,0,none⟩) (n+1) c1) V1 /\
   (Builtin.append_ #[28,28] 28 #[.slice (some ⟨g,0,none⟩) (n+1) c1,.slice (some ⟨b,o,none⟩) m c]).run Tryz.prog V1=.ok (.slice ao (n+1+m) c2) V2 /\
   V2.cell? ⟨sb,4,none⟩=some (.slice h'.na n h'.nc)/\V2.frozen? ⟨sb,4,none⟩=false/\SY w (V2.setCell ⟨sb,4,none⟩ (.slice ao (n+1+m) c2)) gb rb sb h G ⟨ao,c2,h'.la,h'.lc,h'.aa,h'.ac,h'.ra,h'.rc⟩ ⟨S.tk,S.nt,S.st,S.ex,S.nm++x :: l,S.lv,S.az,S.rs⟩ []:=by
 obtain ⟨g,c1,V1,ao,c2,V2,h1,h2,h3,h4,far⟩:=s.sp.addTwo x l b o m c n en hl hrow hm hn
 exact ⟨g,c1,V1,ao,c2,V2,h1,h2,by rw [qe h3];unfold sC;rw [en];rfl,qi h3 4,h4,far gb 25 _ s.gx (by decide) (qr ⟨_,s.gx⟩ ⟨_,s.sp.box⟩ (by decide)),far rb 31 _ s.rx (by decide) s.ne,s.ne⟩
theorem SY.putSt {w W:World} {gb rb sb:Nat} {h:Hd} {G:Gm} {h':SHd} {S:Sp} {qs:List (SR × Option Addr × Nat)} (s:SY w W gb rb sb h G h' S qs) (x:Nat):SY w (W.setCell ⟨sb,2,none⟩ (.int .i64 (x:Int))) gb rb sb h G h' ⟨S.tk,S.nt,x,S.ex,S.nm,S.lv,S.az,S.rs⟩ qs :=
 ⟨s.sp.putSt x,qbu s.gx (qr ⟨_,s.gx⟩ ⟨_,s.sp.box⟩ (by decide)),qbu s.rx s.ne,s.ne⟩
theorem SY.addRu {w W:World} {gb rb sb:Nat} {h:Hd} {G:Gm} {h':SHd} {S:Sp} {qs:List (SR × Option Addr × Nat)} (s:SY w W gb rb sb h G h' S qs) (q:SR × Option Addr × Nat) (n:Nat) (en:S.rs.length=n) (hq:W.ownsRow w.heap.size 3 1 (.slice q.2.1 q.1.r.length q.2.2) q.1.r.length (natC q.1.r)) (hn:n<10000) :
  ∃ g c W',(Builtin.append_ #[29,29] 29 #[.slice h'.ra n h'.rc,.slice (some ⟨W.heap.size,0,none⟩) 1 1]).run Tryz.prog (W.alloc (.cells #[.int .i64 q.1.l,.slice q.2.1 q.1.r.length q.2.2,.int .i64 q.1.lv,.int .i64 q.1.a] 47))=.ok (.slice (some ⟨g,0,none⟩) (n+1) c) W' /\
   W'.cell? ⟨sb,7,none⟩=some (.slice h'.ra n h'.rc)/\W'.frozen? ⟨sb,7,none⟩=false/\SY w (W'.setCell ⟨sb,7,none⟩ (.slice (some ⟨g,0,none⟩) (n+1) c)) gb rb sb h G ⟨h'.na,h'.nc,h'.la,h'.lc,h'.aa,h'.ac,some ⟨g,0,none⟩,c⟩ ⟨S.tk,S.nt,S.st,S.ex,S.nm,S.lv,S.az,S.rs++[q.1]⟩ (qs++[q]):=by
 subst en
 obtain ⟨g,c,W',hr,hbox,h2,hk⟩:=s.sp.addRu q hq hn
 exact ⟨g,c,W',hr,by rw [qe hbox];rfl,qi hbox 7,h2,qem hk s.sp.rl s.gx (by decide) (qr ⟨_,s.gx⟩ ⟨_,s.sp.box⟩ (by decide)),qem hk s.sp.rl s.rx (by decide) s.ne,s.ne⟩
def ry0 (G:Gm) (k:Nat):Sp:=⟨G.ts.length,(lfs G.rs).length,0,G.e,(G.ts.take k).map (·.n),(G.ts.take k).map (·.l),(G.ts.take k).map (·.a),[]⟩
def ry1 (G:Gm):Sp:=⟨G.ts.length,(lfs G.rs).length,stG G,G.e,nmG G,G.ts.map (·.l),G.ts.map (·.a),[]⟩
def ry2 (G:Gm) (k:Nat):Sp:=⟨G.ts.length,(lfs G.rs).length,stG G,G.e,nmG G,G.ts.map (·.l),G.ts.map (·.a),⟨-1,[stG G],0,0⟩ :: (G.rs.take k).map (ruG G)⟩
theorem qrp (G:Gm):ry2 G G.rs.length=spG G:=by
 unfold ry2 spG
 rw [List.take_of_length_le (Nat.le_refl _)]
theorem jy {ops:Array Oper} {o:Oper} {a:Act} {w:World} {K:Act->World->Prop} {Q:Exit->Act->World->Prop} {E:Prop} (hg:o.guard=none)
  (f:FuncId) (args:Array Value) (v:Option Addr->Nat->Value) (P:Option Addr->Nat->World->Prop) (hrun:(execOp a.eval o).run Tryz.prog w=.ok (.enter f args) w)
  (hc:Calls Tryz.prog f args w fun e w'=>∃ xa xc,e=.returned (v xa xc)/\P xa xc w') (hK:∀ xa xc w',P xa xc w'->K (a.put o.dst (v xa xc)) w') :
  if Region.wanted o (yielded ops a.tmps)=true then Oper.wp Tryz.prog o a w K Q else E:=by
 have hw:Region.wanted o (yielded ops a.tmps)=true:=by simp [Region.wanted,hg]
 rw [if_pos hw]
 unfold Oper.wp
 rw [hrun,Oper.upon_enter]
 refine hc.mono fun e w'' hh=>?_
 obtain ⟨xa,xc,rfl,hp⟩:=hh
 exact hK xa xc w'' hp
structure NSp (S:Sp) (n:Nat):Prop where
 wf:WF S
 nn:n=S.tk+1+S.nt
 sy:∀ r∈S.rs,∀ y∈r.r,y<n/\y≠S.tk
 rc:∀ x,S.tk<x->x<n->Rch S x
 nr:S.rs.length<=40
 ln:∀ r∈S.rs,r.r.length<=20
structure N1 (w W:World) (h:SHd) (S:Sp) (n b1 vb fb eb:Nat) (Ed:List Bool):Prop where
 bel:Below w.heap.size w W
 x1:W.heap[b1]?=some (.cells (sC h S) 31 (0,0))
 x2:W.heap[vb]?=some (.cells #[.pointer (some ⟨fb,0,none⟩)] 44 (0,0))
 x3:W.heap[fb]?=some (.cells #[.int .i64 (S.tk:Int),.slice (some ⟨eb,0,none⟩) n n,.slice none 0 0] 78 (0,0))
 el:Ed.length=n
 em:W.ownsRow w.heap.size 4 1 (.slice (some ⟨eb,0,none⟩) n n) n (booC Ed)
 nu:∀ x,isF Ed x=true↔Nul S x
 ge:w.heap.size<=b1/\w.heap.size<=vb/\w.heap.size<=fb
theorem qst {w U:World} {h:SHd} {S:Sp} {n b1 vb fb eb:Nat} {Ed:List Bool} (hU:Below w.heap.size w U) (h1:U.heap[b1]?=some (.cells (sC h S) 31 (0,0))) (h2:U.heap[vb]?=some (.cells #[.pointer none] 44 (0,0))) (h3:U.heap[fb]?=some (.cells #[.int .i64 (S.tk:Int),.slice (some ⟨eb,0,none⟩) n n,.slice none 0 0] 78 (0,0))) (hel:Ed.length=n) (hem:U.ownsRow w.heap.size 4 1 (.slice (some ⟨eb,0,none⟩) n n) n (booC Ed)) (hnu:∀ x,isF Ed x=true↔Nul S x) (hg:w.heap.size<=b1/\w.heap.size<=vb/\w.heap.size<=fb):N1 w (U.setCell ⟨vb,0,none⟩ (.pointer (some ⟨fb,0,none⟩))) h S n b1 vb fb eb Ed:=by
 refine ⟨hU.setCell (p:=⟨vb,0,none⟩) hg.2.1 _,?_,?_,?_,hel,?_,hnu,hg⟩
 ·rw [Below.heap_setCell _ _ _ _ (qr ⟨_,h1⟩ ⟨_,h2⟩ (by decide))];exact h1
 ·rw [setCell_eq_setRow U vb 0 _ 44 (0,0) _ h2]
  exact setRow_heap _ _ _ _ 44 _ h2
 ·rw [Below.heap_setCell _ _ _ _ (qr ⟨_,h3⟩ ⟨_,h2⟩ (by decide))];exact h3
 ·exact qh hem (fun i hi=>Below.heap_setCell _ _ _ _ (qr (qx hem hi) ⟨_,h2⟩ (by decide)))
theorem n1_a {w V:World} {h:SHd} {S:Sp} {n b1 eb:Nat} {Ed:List Bool} (hV:Below w.heap.size w V) (h1:V.heap[b1]?=some (.cells (sC h S) 31 (0,0))) (hb:w.heap.size<=b1) (hel:Ed.length=n) (hem:V.ownsRow w.heap.size 4 1 (.slice (some ⟨eb,0,none⟩) n n) n (booC Ed)) (hnu:∀ x,isF Ed x=true↔Nul S x):N1 w ((V.alloc (.cells #[.int .i64 (S.tk:Int),.slice (some ⟨eb,0,none⟩) n n,.slice none 0 0] 78)).alloc (.cells #[.pointer (some ⟨V.heap.size,0,none⟩)] 44)) h S n b1 (V.heap.size+1) V.heap.size eb Ed:=by
 have hb2:Below V.heap.size V ((V.alloc (.cells #[.int .i64 (S.tk:Int),.slice (some ⟨eb,0,none⟩) n n,.slice none 0 0] 78)).alloc (.cells #[.pointer (some ⟨V.heap.size,0,none⟩)] 44)):=qd (qb _ _) (qb _ _)
 have hs:=hV.size
 refine ⟨qd hV hb2,qf hb2 h1,?_,qf (qb _ _) (heap_alloc_new _ _),hel,zw hem hb2,hnu,⟨hb,by omega,by omega⟩⟩
 have:=heap_alloc_new (V.alloc (.cells #[.int .i64 (S.tk:Int),.slice (some ⟨eb,0,none⟩) n n,.slice none 0 0] 78)) (.cells #[.pointer (some ⟨V.heap.size,0,none⟩)] 44)
 rw [qt] at this
 exact this
theorem n1_b {w V:World} {h:SHd} {S:Sp} {n b1 eb:Nat} {Ed:List Bool} (hV:Below w.heap.size w V) (h1:V.heap[b1]?=some (.cells (sC h S) 31 (0,0))) (hb:w.heap.size<=b1) (hel:Ed.length=n) (hem:V.ownsRow w.heap.size 4 1 (.slice (some ⟨eb,0,none⟩) n n) n (booC Ed)) (hnu:∀ x,isF Ed x=true↔Nul S x):N1 w ((V.alloc (.cells #[.pointer (some ⟨V.heap.size+1,0,none⟩)] 44)).alloc (.cells #[.int .i64 (S.tk:Int),.slice (some ⟨eb,0,none⟩) n n,.slice none 0 0] 78)) h S n b1 V.heap.size (V.heap.size+1) eb Ed:=by
 have hb2:Below V.heap.size V ((V.alloc (.cells #[.pointer (some ⟨V.heap.size+1,0,none⟩)] 44)).alloc (.cells #[.int .i64 (S.tk:Int),.slice (some ⟨eb,0,none⟩) n n,.slice none 0 0] 78)):=qd (qb _ _) (qb _ _)
 have hs:=hV.size
 refine ⟨qd hV hb2,qf hb2 h1,qf (qb _ _) (heap_alloc_new _ _),?_,hel,zw hem hb2,hnu,⟨hb,by omega,by omega⟩⟩
 have:=heap_alloc_new (V.alloc (.cells #[.pointer (some ⟨V.heap.size+1,0,none⟩)] 44)) (.cells #[.int .i64 (S.tk:Int),.slice (some ⟨eb,0,none⟩) n n,.slice none 0 0] 78)
 rw [qt] at this
 exact this
theorem n1_c {w V:World} {h:SHd} {S:Sp} {n b1 vb eb:Nat} {Ed:List Bool} (hV:Below w.heap.size w V) (h1:V.heap[b1]?=some (.cells (sC h S) 31 (0,0))) (hb:w.heap.size<=b1) (hel:Ed.length=n) (hem:V.ownsRow w.heap.size 4 1 (.slice (some ⟨eb,0,none⟩) n n) n (booC Ed)) (hnu:∀ x,isF Ed x=true↔Nul S x) (hv:V.heap[vb]?=some (.cells #[.pointer none] 44 (0,0))) (hvg:w.heap.size<=vb):N1 w ((V.alloc (.cells #[.int .i64 (S.tk:Int),.slice (some ⟨eb,0,none⟩) n n,.slice none 0 0] 78)).setCell ⟨vb,0,none⟩ (.pointer (some ⟨V.heap.size,0,none⟩))) h S n b1 vb V.heap.size eb Ed:=by
 have hb2:Below V.heap.size V (V.alloc (.cells #[.int .i64 (S.tk:Int),.slice (some ⟨eb,0,none⟩) n n,.slice none 0 0] 78)):=qb _ _
 exact qst (qd hV hb2) (qf hb2 h1) (qf hb2 hv) (heap_alloc_new _ _) hel (zw hem hb2) hnu ⟨hb,hvg,hV.size⟩
structure N3 (w W:World) (h:SHd) (S:Sp) (n b1 vb fb g c:Nat) (p:FP) (E:List Bool) (WL:List (List Nat)):Prop where
 bel:Below w.heap.size w W
 x1:W.heap[b1]?=some (.cells (sC (shR h g c) (noH S)) 31 (0,0))
 x2:W.heap[vb]?=some (.cells #[.pointer (some ⟨fb,0,none⟩)] 44 (0,0))
 fm:FM W w.heap.size fb p n S.tk E WL
 isp:IsSp W (shR h g c) (noH S)
 gb:∃ qs:List QR,qs.map (·.1)=(noH S).rs/\W.ownsRow w.heap.size 47 4 (.slice (some ⟨g,0,none⟩) (noH S).rs.length c) (noH S).rs.length (srC qs)/\∀ q∈qs,Row w 1 q.2.1 q.1.r.length q.2.2 (natC q.1.r)
theorem qqd {W:World} {B fb eb wb n tk:Nat} {Ed:List Bool} (hf:W.heap[fb]?=some (.cells #[.int .i64 (tk:Int),.slice (some ⟨eb,0,none⟩) n n,.slice none 0 0] 78 (0,0))) (hfb:B<=fb) (hel:Ed.length=n) (hem:W.ownsRow B 4 1 (.slice (some ⟨eb,0,none⟩) n n) n (booC Ed)) (hg:Grd W B wb (List.replicate (2 * n) (none,0)) (List.replicate (2 * n) [])) :
  FM (W.setCell ⟨fb,2,none⟩ (.slice (some ⟨wb,0,none⟩) (2 * n) (2 * n))) B fb ⟨eb,wb,2 * n,List.replicate (2 * n) (none,0)⟩ n tk Ed (List.replicate (2 * n) []):=by
 have hno:∀ {T k:Nat},Loc W k T->T≠78->k≠fb:=fun hl ht=>qr hl ⟨_,hf⟩ ht
 refine ⟨?_,hfb,hel,?_,hg.len,?_,fun x q l hq hl=>?_,hg.dis⟩
 ·rw [setCell_eq_setRow W fb 2 _ 78 (0,0) _ hf,List.length_replicate]
  exact setRow_heap _ _ _ _ 78 _ hf
 ·exact qh hem (fun i hi=>Below.heap_setCell _ _ _ _ (hno (qx hem hi) (by decide)))
 ·have hb:=hg.bod
  rw [List.length_replicate] at hb ⊢
  exact qh hb (fun i hi=>Below.heap_setCell _ _ _ _ (hno (qx hb hi) (by decide)))
 ·have hr:=hg.row x q l hq hl
  exact qh hr (fun i hi=>Below.heap_setCell _ _ _ _ (hno (qx hr hi) (by decide)))
theorem qgs (w:World) (h:SHd) (S:Sp) (n:Nat) (hs:NSp S n) (hsp:IsSp w h S) :
  Calls Tryz.prog 17 #[sv h S] w fun e w'=>∃ fb p E WL,e=.returned (.pointer (some ⟨fb,0,none⟩))/\FS w' w.heap.size fb p n S E WL/\Below w.heap.size w w':=by
 have HX:Hid (NSp S n/\IsSp w h S):=⟨hs,hsp⟩
 have hrl:0<S.rs.length:=(List.getElem?_eq_some_iff.1 hs.wf.hd).1
 have hrn40:S.rs.length<=40:=hs.nr
 have hB0:Below w.heap.size w (w.alloc (.cells (sC h S) 31)):=qb _ _
 have hs0:(w.alloc (.cells (sC h S) 31)).heap[w.heap.size]?=some (.cells (sC h S) 31 (0,0)):=heap_alloc_new _ _
 have htn:(S.tk:Int)<(n:Int):=by have:=hs.nn;omega
 have hnb:n<=301:=by have:=hs.nn;have:=hs.wf.tk;have:=hs.wf.nt;omega
 have HEM:Hid (∀ V:World,Below w.heap.size w V->Calls Tryz.prog 38 #[.agg #[.int .i64 (S.tk:Int),.int .i64 (S.nt:Int),.int .i64 (S.st:Int),.int .i64 S.ex,.slice h.na S.nm.length h.nc,.slice h.la S.lv.length h.lc,.slice h.aa S.az.length h.ac,.slice h.ra S.rs.length h.rc]] V fun e w'=>∃ (xa:Option Addr) (xc:Nat),e=.returned (.slice xa n n)/\∃ eb Ed,xa=some ⟨eb,0,none⟩/\(Ed:List Bool).length=n/\w'.ownsRow w.heap.size 4 1 (.slice (some ⟨eb,0,none⟩) n n) n (booC Ed)/\(∀ x,isF Ed x=true↔Nul S x)/\Below V.heap.size V w'):=fun V hV=>(qi0 V h S n hs.nn hs.wf (hsp.below hV)).mono (fun e w' ⟨eb,Ed,h1,h2,h3,h4,h5⟩=>⟨_,0,h1,eb,Ed,rfl,h2,zd h3 hV.size,h4,h5⟩)
 clear hs hsp
 unfold sv
 have e1:sC h S=#[.int .i64 (S.tk:Int),.int .i64 (S.nt:Int),.int .i64 (S.st:Int),.int .i64 S.ex,.slice h.na S.nm.length h.nc,.slice h.la S.lv.length h.lc,.slice h.aa S.az.length h.ac,.slice h.ra S.rs.length h.rc]:=rfl
 rw [e1]
 go_enter Tryz.func17,Tryz.ntmps17
 go_upto_region 1 with fail
 rw [<-e1]
 clear e1
 generalize w.alloc (.cells (sC h S) 31)=W0 at hB0 hs0 ⊢
 obtain ⟨b1,HB1⟩:∃ b1,Hid (b1=w.heap.size):=⟨_,rfl⟩
 rw [<-HB1.out] at hs0 ⊢
 obtain ⟨c0,c1,c2,c3,c4,c5,c6,c7⟩:=sbox hs0
 have HB0:Hid (Below w.heap.size w W0/\W0.heap[b1]?=some (.cells (sC h S) 31 (0,0))/\w.heap.size<=b1):=⟨hB0,hs0,by rw [HB1.out];exact Nat.le_refl _⟩
 clear hB0 hs0
 go_cut [3] (fun s3 wd=>∃ vb fb eb:Nat,s3=.pointer (some ⟨vb,0,none⟩)/\Hid (∃ Ed,N1 w wd h S n b1 vb fb eb Ed))
 case first =>
  refine wp_region_held_drew (S:=fun w'=>w'.heap[b1]?=some (.cells (sC h S) 31 (0,0))/\True) (by kernel_rfl) ⟨HB0.out.2.1,trivial⟩ (fun hHeld=>?_)
  refine wpAnyH_take (i:=0) (v:=.pointer (some ⟨b1,0,none⟩)) rfl (by kernel_rfl) (by kernel_rfl) (by kernel_rfl) (fun _ _ _ h=>h) (Or.inl ⟨by rfl,fun w9 hSw=>?_⟩) hHeld ?_
  ·(obtain ⟨hs1,-⟩:=hSw;obtain ⟨z0,z1,z2,z3,z4,z5,z6,z7⟩:=sbox hs1;go_simp)
  simp only [Act.put]
  refine wpAnyH_take (i:=1) (v:=.int .i64 (S.tk:Int)) rfl (by kernel_rfl) (by kernel_rfl) (by kernel_rfl) (fun _ _ _ h=>h) (Or.inl ⟨by rfl,fun w9 hSw=>?_⟩) hHeld ?_
  ·(obtain ⟨hs1,-⟩:=hSw;obtain ⟨z0,z1,z2,z3,z4,z5,z6,z7⟩:=sbox hs1;go_simp)
  simp only [Act.put]
  refine wpAnyH_take (i:=2) (v:=.agg #[.int .i64 (S.tk:Int),.int .i64 (S.nt:Int),.int .i64 (S.st:Int),.int .i64 S.ex,.slice h.na S.nm.length h.nc,.slice h.la S.lv.length h.lc,.slice h.aa S.az.length h.ac,.slice h.ra S.rs.length h.rc]) rfl (by kernel_rfl) (by kernel_rfl) (by kernel_rfl) (fun _ _ _ h=>h) (Or.inl ⟨by rfl,fun w9 hSw=>?_⟩) hHeld ?_
  ·(obtain ⟨hs1,-⟩:=hSw;obtain ⟨z0,z1,z2,z3,z4,z5,z6,z7⟩:=sbox hs1;go_simp)
  simp only [Act.put]
  refine wpAnyH_ready (rs:=[3,6]) (by kernel_rfl) (by simp) ?_
  refine AllReadyH.cons rfl (fun K hK=>?_) (AllReadyH.cons rfl (fun K hK=>?_) AllReadyH.nil)
  ·refine jy rfl 38 #[.agg #[.int .i64 (S.tk:Int),.int .i64 (S.nt:Int),.int .i64 (S.st:Int),.int .i64 S.ex,.slice h.na S.nm.length h.nc,.slice h.la S.lv.length h.lc,.slice h.aa S.az.length h.ac,.slice h.ra S.rs.length h.rc]] (fun xa _=>.slice xa n n) (fun xa _ V=>∃ eb Ed,xa=some ⟨eb,0,none⟩/\(Ed:List Bool).length=n/\V.ownsRow w.heap.size 4 1 (.slice (some ⟨eb,0,none⟩) n n) n (booC Ed)/\(∀ x,isF Ed x=true↔Nul S x)/\Below (W0.drew).heap.size (W0.drew) V) (by simp [Act.eval,go_sem]) (HEM.out _ (qd HB0.out.1 (qk _))) (fun xa _ V hV=>?_)
   obtain ⟨eb,Ed,rfl,hel,hem,hnu,hb⟩:=hV
   have HV:Hid (Below w.heap.size w V/\V.heap[b1]?=some (.cells (sC h S) 31 (0,0))/\Ed.length=n/\V.ownsRow w.heap.size 4 1 (.slice (some ⟨eb,0,none⟩) n n) n (booC Ed)/\∀ x,isF Ed x=true↔Nul S x):=⟨qd (qd HB0.out.1 (qk _)) hb,qf hb HB0.out.2.1,hel,hem,hnu⟩
   refine hK.out _ _ ⟨HV.out.2.1,trivial⟩ (fun hHeld=>?_)
   clear hK K hel hem hnu hb
   simp only [Act.put]
   refine wpAnyH_take (i:=4) (v:=.agg #[.int .i64 (S.tk:Int),.slice (some ⟨eb,0,none⟩) n n,.slice none 0 0]) rfl (by kernel_rfl) (by kernel_rfl) (by kernel_rfl) (fun _ _ _ h=>h) (Or.inl ⟨by rfl,fun w9 hSw=>?_⟩) hHeld ?_
   ·(obtain ⟨hs1,-⟩:=hSw;obtain ⟨z0,z1,z2,z3,z4,z5,z6,z7⟩:=sbox hs1;go_simp)
   simp only [Act.put]
   refine wpAnyH_ready (rs:=[5,6]) (by kernel_rfl) (by simp) ?_
   refine AllReadyH.cons rfl (fun K hK=>?_) (AllReadyH.cons rfl (fun K hK=>?_) AllReadyH.nil)
   ·go_simp
    refine hK.out _ _ ⟨qf (qb _ _) HV.out.2.1,trivial⟩ (fun hHeld=>?_)
    clear hK K
    refine wpAnyH_ready (rs:=[6]) (by kernel_rfl) (by simp) ?_
    refine AllReadyH.cons rfl (fun K hK=>?_) AllReadyH.nil
    go_simp
    refine hK.out _ _ ⟨qf (qd (qb _ _) (qb _ _)) HV.out.2.1,trivial⟩ (fun hHeld=>?_)
    clear hK K
    have HN:Hid (N1 w ((V.alloc (.cells #[.int .i64 (S.tk:Int),.slice (some ⟨eb,0,none⟩) n n,.slice none 0 0] 78)).alloc (.cells #[.pointer (some ⟨V.heap.size,0,none⟩)] 44)) h S n b1 (V.heap.size+1) (V.heap.size) eb Ed):=n1_a HV.out.1 HV.out.2.1 HB0.out.2.2 HV.out.2.2.1 HV.out.2.2.2.1 HV.out.2.2.2.2
    refine wpAnyH_ready (rs:=[7]) (by kernel_rfl) (by simp) ?_
    refine AllReadyH.cons rfl (fun K hK=>?_) AllReadyH.nil
    go_simp
    refine hK.out _ _ ⟨HN.out.x1,trivial⟩ (fun hHeld=>?_)
    clear hK K
    refine wpAnyH_done (by kernel_rfl) ?_ _
    go_wp2_with fail
    go_meet
    exact ⟨_,_,eb,rfl,(⟨Ed,HN.out⟩:∃ Ed,N1 w _ h S n b1 _ _ eb Ed)⟩
   ·go_simp
    refine hK.out _ _ ⟨qf (qb _ _) HV.out.2.1,trivial⟩ (fun hHeld=>?_)
    clear hK K
    refine wpAnyH_ready (rs:=[5]) (by kernel_rfl) (by simp) ?_
    refine AllReadyH.cons rfl (fun K hK=>?_) AllReadyH.nil
    go_simp
    refine hK.out _ _ ⟨qf (qd (qb _ _) (qb _ _)) HV.out.2.1,trivial⟩ (fun hHeld=>?_)
    clear hK K
    have HN:Hid (N1 w ((V.alloc (.cells #[.pointer (some ⟨V.heap.size+1,0,none⟩)] 44)).alloc (.cells #[.int .i64 (S.tk:Int),.slice (some ⟨eb,0,none⟩) n n,.slice none 0 0] 78)) h S n b1 (V.heap.size) (V.heap.size+1) eb Ed):=n1_b HV.out.1 HV.out.2.1 HB0.out.2.2 HV.out.2.2.1 HV.out.2.2.2.1 HV.out.2.2.2.2
    refine wpAnyH_ready (rs:=[7]) (by kernel_rfl) (by simp) ?_
    refine AllReadyH.cons rfl (fun K hK=>?_) AllReadyH.nil
    go_simp
    refine hK.out _ _ ⟨HN.out.x1,trivial⟩ (fun hHeld=>?_)
    clear hK K
    refine wpAnyH_done (by kernel_rfl) ?_ _
    go_wp2_with fail
    go_meet
    exact ⟨_,_,eb,rfl,(⟨Ed,HN.out⟩:∃ Ed,N1 w _ h S n b1 _ _ eb Ed)⟩
  ·go_simp
   refine hK.out _ _ ⟨qf (qd (qb _ _) (qk _)) HB0.out.2.1,trivial⟩ (fun hHeld=>?_)
   clear hK K
   refine wpAnyH_ready (rs:=[3]) (by kernel_rfl) (by simp) ?_
   refine AllReadyH.cons rfl (fun K hK=>?_) AllReadyH.nil
   refine jy rfl 38 #[.agg #[.int .i64 (S.tk:Int),.int .i64 (S.nt:Int),.int .i64 (S.st:Int),.int .i64 S.ex,.slice h.na S.nm.length h.nc,.slice h.la S.lv.length h.lc,.slice h.aa S.az.length h.ac,.slice h.ra S.rs.length h.rc]] (fun xa _=>.slice xa n n) (fun xa _ V=>∃ eb Ed,xa=some ⟨eb,0,none⟩/\(Ed:List Bool).length=n/\V.ownsRow w.heap.size 4 1 (.slice (some ⟨eb,0,none⟩) n n) n (booC Ed)/\(∀ x,isF Ed x=true↔Nul S x)/\Below ((W0.alloc (.cells #[.pointer none] 44)).drew).heap.size ((W0.alloc (.cells #[.pointer none] 44)).drew) V) (by simp [Act.eval,go_sem]) (HEM.out _ (qd (qd HB0.out.1 (qb _ _)) (qk _))) (fun xa _ V hV=>?_)
   obtain ⟨eb,Ed,rfl,hel,hem,hnu,hb⟩:=hV
   have HV:Hid (Below w.heap.size w V/\V.heap[b1]?=some (.cells (sC h S) 31 (0,0))/\Ed.length=n/\V.ownsRow w.heap.size 4 1 (.slice (some ⟨eb,0,none⟩) n n) n (booC Ed)/\(∀ x,isF Ed x=true↔Nul S x)/\V.heap[W0.heap.size]?=some (.cells #[.pointer none] 44 (0,0))):=⟨qd (qd (qd HB0.out.1 (qb _ _)) (qk _)) hb,qf hb (qf (qd (qb _ _) (qk _)) HB0.out.2.1),hel,hem,hnu,qf hb (qf (qk _) (heap_alloc_new _ _))⟩
   refine hK.out _ _ ⟨HV.out.2.1,trivial⟩ (fun hHeld=>?_)
   clear hK K hel hem hnu hb
   simp only [Act.put]
   refine wpAnyH_take (i:=4) (v:=.agg #[.int .i64 (S.tk:Int),.slice (some ⟨eb,0,none⟩) n n,.slice none 0 0]) rfl (by kernel_rfl) (by kernel_rfl) (by kernel_rfl) (fun _ _ _ h=>h) (Or.inl ⟨by rfl,fun w9 hSw=>?_⟩) hHeld ?_
   ·(obtain ⟨hs1,-⟩:=hSw;obtain ⟨z0,z1,z2,z3,z4,z5,z6,z7⟩:=sbox hs1;go_simp)
   simp only [Act.put]
   refine wpAnyH_ready (rs:=[5]) (by kernel_rfl) (by simp) ?_
   refine AllReadyH.cons rfl (fun K hK=>?_) AllReadyH.nil
   go_simp
   refine hK.out _ _ ⟨qf (qb _ _) HV.out.2.1,trivial⟩ (fun hHeld=>?_)
   clear hK K
   have HN:Hid (N1 w ((V.alloc (.cells #[.int .i64 (S.tk:Int),.slice (some ⟨eb,0,none⟩) n n,.slice none 0 0] 78)).setCell ⟨W0.heap.size,0,none⟩ (.pointer (some ⟨V.heap.size,0,none⟩))) h S n b1 W0.heap.size V.heap.size eb Ed):=n1_c HV.out.1 HV.out.2.1 HB0.out.2.2 HV.out.2.2.1 HV.out.2.2.2.1 HV.out.2.2.2.2.1 HV.out.2.2.2.2.2 (by have:=HB0.out.1.size;omega)
   have hv0:(V.alloc (.cells #[.int .i64 (S.tk:Int),.slice (some ⟨eb,0,none⟩) n n,.slice none 0 0] 78)).cell? ⟨W0.heap.size,0,none⟩=some (.pointer none):=by rw [qe (qf (qb _ _) HV.out.2.2.2.2.2)];rfl
   have hv1:(V.alloc (.cells #[.int .i64 (S.tk:Int),.slice (some ⟨eb,0,none⟩) n n,.slice none 0 0] 78)).frozen? ⟨W0.heap.size,0,none⟩=false:=qi (qf (qb _ _) HV.out.2.2.2.2.2) 0
   refine wpAnyH_ready (rs:=[7]) (by kernel_rfl) (by simp) ?_
   refine AllReadyH.cons rfl (fun K hK=>?_) AllReadyH.nil
   go_simp
   refine hK.out _ _ ⟨HN.out.x1,trivial⟩ (fun hHeld=>?_)
   clear hK K
   refine wpAnyH_done (by kernel_rfl) ?_ _
   go_wp2_with fail
   go_meet
   exact ⟨_,_,eb,rfl,(⟨Ed,HN.out⟩:∃ Ed,N1 w _ h S n b1 _ _ eb Ed)⟩
 case rest =>
  obtain ⟨w8,hw8⟩:∃ w8,w8=wc:=⟨_,rfl⟩
  subst wc
  obtain ⟨vb,fb,eb,rfl,J⟩:=hcut
  obtain ⟨Ed,y⟩:=J.out
  have v0:w8.cell? ⟨vb,0,none⟩=some (.pointer (some ⟨fb,0,none⟩)):=by rw [qe y.x2];rfl
  have v1:w8.cell? ⟨fb,1,none⟩=some (.slice (some ⟨eb,0,none⟩) n n):=by rw [qe y.x3];rfl
  obtain ⟨W6,hr6,hG6,hB6⟩:=qcj w8.drew w.heap.size (2 * n) (by omega) (qd y.bel (qk _)).size
  have hb6:Below w8.heap.size w8 W6:=qd (qk w8) hB6
  have hf6:=qf hb6 y.x3
  have HF:Hid (FM (W6.setCell ⟨fb,2,none⟩ (.slice (some ⟨w8.heap.size,0,none⟩) (2 * n) (2 * n))) w.heap.size fb ⟨eb,w8.heap.size,2 * n,List.replicate (2 * n) (none,0)⟩ n S.tk Ed (List.replicate (2 * n) [])/\Below w.heap.size w (W6.setCell ⟨fb,2,none⟩ (.slice (some ⟨w8.heap.size,0,none⟩) (2 * n) (2 * n)))/\(W6.setCell ⟨fb,2,none⟩ (.slice (some ⟨w8.heap.size,0,none⟩) (2 * n) (2 * n))).heap[b1]?=some (.cells (sC h S) 31 (0,0))/\(W6.setCell ⟨fb,2,none⟩ (.slice (some ⟨w8.heap.size,0,none⟩) (2 * n) (2 * n))).heap[vb]?=some (.cells #[.pointer (some ⟨fb,0,none⟩)] 44 (0,0))/\∀ x,isF Ed x=true↔Nul S x):=by
   refine ⟨qqd hf6 y.ge.2.2 y.el (zw y.em hb6) hG6,(qd y.bel hb6).setCell (p:=⟨fb,2,none⟩) y.ge.2.2 _,?_,?_,y.nu⟩
   ·rw [Below.heap_setCell _ _ _ _ (qr ⟨_,qf hb6 y.x1⟩ ⟨_,hf6⟩ (by decide))]
    exact qf hb6 y.x1
   ·rw [Below.heap_setCell _ _ _ _ (qr ⟨_,qf hb6 y.x2⟩ ⟨_,hf6⟩ (by decide))]
    exact qf hb6 y.x2
  have u0:W6.cell? ⟨vb,0,none⟩=some (.pointer (some ⟨fb,0,none⟩)):=qj hb6 v0
  have u1:W6.cell? ⟨fb,1,none⟩=some (.slice (some ⟨eb,0,none⟩) n n):=qj hb6 v1
  have u2:W6.cell? ⟨fb,2,none⟩=some (.slice none 0 0):=by rw [qe hf6];rfl
  have g2:=qi hf6 2
  have hr7:(Instr.makeSlice 38 (.int .i64 (2 * (n:Int))) (.int .i64 (2 * (n:Int)))).run Tryz.prog w8.drew=.ok (.slice (some ⟨w8.heap.size,0,none⟩) (2 * n) (2 * n)) W6:=by
   have e:((2 * n:Nat):Int)=2 * (n:Int):=by omega
   rw [e] at hr6
   exact hr6
  have HV:Hid (w.heap.size<=b1/\w.heap.size<=vb/\w.heap.size<=fb):=y.ge
  clear y J hG6 hB6 hb6 hf6 hr6
  go_upto_region 2 with fail
  go_region
  go_upto_region 3 with fail
  clear hr7 u0 u1 u2 g2 v0 v1
  generalize W6.setCell ⟨fb,2,none⟩ (.slice (some ⟨w8.heap.size,0,none⟩) (2 * n) (2 * n))=W7 at HF ⊢
  obtain ⟨p0,HP0⟩:∃ p0:FP,Hid (p0=⟨eb,w8.heap.size,2 * n,List.replicate (2 * n) (none,0)⟩):=⟨_,rfl⟩
  rw [<-HP0.out] at HF
  have HF1:Hid (FM W7 w.heap.size fb p0 n S.tk Ed (List.replicate (2 * n) [])/\Below w.heap.size w W7/\W7.heap[b1]?=some (.cells (sC h S) 31 (0,0))/\W7.heap[vb]?=some (.cells #[.pointer (some ⟨fb,0,none⟩)] 44 (0,0))/\∀ x,isF Ed x=true↔Nul S x):=HF.out
  clear HF HP0
  obtain ⟨qs,hqs,hrow,hrr⟩:=qoh HX.out.2.rl
  have HQ:Hid (qs.map (·.1)=S.rs/\∀ q∈qs,Row w 1 q.2.1 q.1.r.length q.2.2 (natC q.1.r)/\q.1.r.length<=1000/\∀ y∈q.1.r,y≠S.tk/\y<n):=⟨hqs,fun q hq=>by
   have h1:q.1∈S.rs:=by rw [<-hqs];exact List.mem_map_of_mem hq
   have h2:=HX.out.1.ln q.1 h1
   exact ⟨hrr q hq,by omega,fun y hy=>⟨(HX.out.1.sy q.1 h1 y hy).2,(HX.out.1.sy q.1 h1 y hy).1⟩⟩⟩
  have HRW:Hid (Row w 4 h.ra S.rs.length h.rc (srC qs)):=hrow
  have hrc:=ze hrow
  clear hqs hrow hrr
  obtain ⟨-,-,-,-,-,-,-,c7⟩:=sbox HF1.out.2.2.1
  go_wp2_with fail
  refine (qe4 W7 qs h.ra S.rs.length h.rc (HRW.out.below HF1.out.2.1) hrl (by omega)).mono ?_
  rintro e W8 ⟨g,c,rfl,hown,hb1⟩
  clear c7
  have hg0:W7.heap.size<=g:=(qw hown (b:=g) rfl).1
  have hgl:=z8 hown
  have HW8:Hid (FM W8 w.heap.size fb p0 n S.tk Ed (List.replicate (2 * n) [])/\Below w.heap.size w W8/\W8.heap[b1]?=some (.cells (sC h S) 31 (0,0))/\W8.heap[vb]?=some (.cells #[.pointer (some ⟨fb,0,none⟩)] 44 (0,0))/\W8.ownsRow W7.heap.size 47 4 (.slice (some ⟨g,0,none⟩) S.rs.length c) S.rs.length (srC qs)/\b1<g/\vb<g/\w.heap.size<=g/\∀ k,FK fb p0 k->k<g):=⟨HF1.out.1.below hb1,qd HF1.out.2.1 hb1,qf hb1 HF1.out.2.2.1,qf hb1 HF1.out.2.2.2.1,hown,by have:=(Array.getElem?_eq_some_iff.1 HF1.out.2.2.1).1;omega,by have:=(Array.getElem?_eq_some_iff.1 HF1.out.2.2.2.1).1;omega,by have:=HF1.out.2.1.size;omega,fun k hk=>by have:=(HF1.out.1.lt hk).2.1;omega⟩
  clear hown hb1
  have v0:W8.cell? ⟨vb,0,none⟩=some (.pointer (some ⟨fb,0,none⟩)):=by rw [qe HW8.out.2.2.2.1];rfl
  go_wp2_with fail
  refine (qh4 41 #[.pointer (some ⟨vb,0,none⟩)] qp4 (fun q=>!okL S.tk n q.1) W8 qs W7.heap.size g S.rs.length c HW8.out.2.2.2.2.1 (by omega) (fun V hV q hq=>?_)).mono ?_
  ·obtain ⟨g1,g2,g3,g4,g5,g6,g7,g8,g9⟩:=HW8.out
   have hF:=g1.kept hV (fun j hj e=>by have:=g9 j hj;omega)
   have h2:V.heap[vb]?=some (.cells #[.pointer (some ⟨fb,0,none⟩)] 44 (0,0)):=by
    rw [hV.block vb (Array.getElem?_eq_some_iff.1 g4).1 (fun e=>by omega)]
    exact g4
   have hbV:Below w.heap.size w V:=g2.trans (hV.below g2.size (fun k hk e=>by omega))
   exact qol V vb fb S.tk n n _ (by rw [qe h2];rfl) hF.c0 hF.c1 q ((HQ.out.2 q hq).1.below hbV) (HQ.out.2 q hq).2.1 (HQ.out.2 q hq).2.2
  rintro e W9 ⟨m,rfl,hmle,hown2,hk2⟩
  clear v0
  obtain ⟨g1,g2,g3,g4,g5,g6,g7,g8,g9⟩:=HW8.out
  have hb2:Below w.heap.size w W9:=g2.trans (hk2.below g2.size (fun k hk e=>by omega))
  have hs2:W9.heap[b1]?=some (.cells (sC h S) 31 (0,0)):=by
   rw [hk2.block b1 (Array.getElem?_eq_some_iff.1 g3).1 (fun e=>by omega)]
   exact g3
  have hv2:W9.heap[vb]?=some (.cells #[.pointer (some ⟨fb,0,none⟩)] 44 (0,0)):=by
   rw [hk2.block vb (Array.getElem?_eq_some_iff.1 g4).1 (fun e=>by omega)]
   exact g4
  have hF9:=g1.kept hk2 (fun j hj e=>by have:=g9 j hj;omega)
  have c7:W9.cell? ⟨b1,7,none⟩=some (.slice h.ra S.rs.length h.rc):=by obtain ⟨-,-,-,-,-,-,-,c7⟩:=sbox hs2;exact c7
  have f7:=qi hs2 7
  have hqf:(qs.filter (fun q=>!(fun q:QR=>!okL S.tk n q.1) q))=qs.filter (fun q=>okL S.tk n q.1):=by
   congr 1
   funext q
   simp
  rw [hqf] at hown2
  have hfm:=qbi HQ.out.1 (okL S.tk n)
  have hnn:=HX.out.1.nn
  have hrest:S.rs.filter (okL S.tk n)=S.rs.drop 1:=by rw [hnn];exact qpv HX.out.1.wf
  rw [hrest] at hfm
  have hml:m=(noH S).rs.length:=by
   have h1:=hown2.1
   rw [jq] at h1
   have h2:=congrArg List.length hfm
   rw [List.length_map] at h2
   have h3:m=(qs.filter (fun q=>okL S.tk n q.1)).length:=Nat.eq_of_mul_eq_mul_right (by decide:0<4) h1.symm
   rw [h3]
   exact h2
  have HN3:Hid (N3 w (W9.setCell ⟨b1,7,none⟩ (.slice (some ⟨g,0,none⟩) m c)) h S n b1 vb fb g c p0 Ed (List.replicate (2 * n) [])/\(∀ k,FK fb p0 k->k<g)/\∀ x,isF Ed x=true↔Nul S x):=by
   have hne:g≠b1:=by omega
   have hrowk:(W9.setCell ⟨b1,7,none⟩ (.slice (some ⟨g,0,none⟩) m c)).ownsRow w.heap.size 47 4 (.slice (some ⟨g,0,none⟩) m c) m (srC (qs.filter (fun q=>okL S.tk n q.1))):=zd (qh hown2 (fun j hj=>by
    cases hj
    exact Below.heap_setCell _ _ _ _ hne)) (HF1.out.2.1.size)
   have hb3:Below w.heap.size w (W9.setCell ⟨b1,7,none⟩ (.slice (some ⟨g,0,none⟩) m c)):=hb2.setCell (p:=⟨b1,7,none⟩) HV.out.1 _
   have hrows:∀ q∈qs.filter (fun q=>okL S.tk n q.1),Row w 1 q.2.1 q.1.r.length q.2.2 (natC q.1.r):=fun q hq=>(HQ.out.2 q (List.mem_filter.1 hq).1).1
   refine ⟨⟨hb3,?_,?_,hF9.keep (fun k hk=>Below.heap_setCell _ _ _ _ (fun e=>?_)),⟨HX.out.2.nm.below hb3,HX.out.2.lv.below hb3,HX.out.2.az.below hb3,qs.filter (fun q=>okL S.tk n q.1),hfm,?_,fun q hq=>(hrows q hq).below hb3⟩,qs.filter (fun q=>okL S.tk n q.1),hfm,?_,hrows⟩,g9,HF1.out.2.2.2.2⟩
   ·rw [setCell_eq_setRow W9 b1 7 _ 31 (0,0) _ hs2,hml]
    exact setRow_heap _ _ _ _ 31 _ hs2
   ·rw [Below.heap_setCell _ _ _ _ (qr ⟨_,hv2⟩ ⟨_,hs2⟩ (by decide))]
    exact hv2
   ·have e:k=b1:=e
    exact hF9.not ⟨_,hs2⟩ (by decide) (by decide) (by decide) (by decide) (by rw [<-e];exact hk)
   ·rw [<-hml]
    exact Row.of_own hrowk
   ·rw [<-hml]
    exact hrowk
  have HNN:Hid (n=S.tk+1+S.nt):=hnn
  clear g1 g2 g3 g4 g5 g6 g7 g8 g9 hb2 hs2 hv2 hF9 hk2 hown2 hqf hfm hrest HW8 HF1 hnn hml
  go_upto_region 4 with fail
  clear c7 f7
  generalize W9.setCell ⟨b1,7,none⟩ (.slice (some ⟨g,0,none⟩) m c)=W10 at HN3 ⊢
  have HNX:Hid (n=(noH S).tk+1+(noH S).nt/\WH (noH S)):=⟨HNN.out,qr9 HX.out.1.wf⟩
  obtain ⟨c0,c1,c2,c3,c4,c5,c6,c7⟩:=sbox HN3.out.1.x1
  have HRC:Hid (Calls Tryz.prog 43 #[.agg #[.int .i64 ((noH S).tk:Int),.int .i64 ((noH S).nt:Int),.int .i64 ((noH S).st:Int),.int .i64 (noH S).ex,.slice (shR h g c).na (noH S).nm.length (shR h g c).nc,.slice (shR h g c).la (noH S).lv.length (shR h g c).lc,.slice (shR h g c).aa (noH S).az.length (shR h g c).ac,.slice (shR h g c).ra (noH S).rs.length (shR h g c).rc]] W10 fun e w'=>BRes W10 w' n (RcH (noH S)) e):=qhk W10 (shR h g c) (noH S) n HNX.out.1 HNX.out.2 HN3.out.1.isp g 0 rfl
  go_wp2_with fail
  refine HRC.out.mono ?_
  rintro e W11 ⟨rb,rd,rfl,hrl2,hro,hrt,hb11⟩
  clear c0 c1 c2 c3 c4 c5 c6 c7 HRC
  obtain ⟨rn,HRN⟩:∃ rn,Hid ((noH S).rs.length=rn):=⟨_,rfl⟩
  have HRS:Hid (S.rs.length=rn+1):=by
   have h1:(S.rs.drop 1).length=rn:=HRN.out
   rw [List.length_drop] at h1
   show S.rs.length=rn+1
   omega
  have hrn:rn<=40:=by have:=HRS.out;omega
  obtain ⟨qs2,hq2,hgb,hqr⟩:=HN3.out.1.gb
  have HR2:Hid (∀ i,i<rn->∃ q,qs2[i]?=some q/\S.rs[i+1]?=some q.1/\Row w 1 q.2.1 q.1.r.length q.2.2 (natC q.1.r)):=fun i hi=>by
   have hl:qs2.length=rn:=by rw [<-HRN.out,<-hq2,List.length_map]
   have hq:qs2[i]?=some (qs2[i]'(by omega)):=List.getElem?_eq_getElem _
   refine ⟨_,hq,?_,hqr _ (List.mem_of_getElem? hq)⟩
   have h1:((qs2.map (·.1))[i]?)=(S.rs.drop 1)[i]?:=by rw [hq2];rfl
   rw [List.getElem?_map,hq,List.getElem?_drop] at h1
   rw [Nat.add_comm i 1,<-h1]
   rfl
  have HW11:Hid (FM W11 w.heap.size fb p0 n S.tk Ed (List.replicate (2 * n) [])/\Below w.heap.size w W11):=⟨HN3.out.1.fm.below hb11,qd HN3.out.1.bel hb11⟩
  have HRF:Hid (∀ x,S.tk<x->x<n->isF rd x=true):=fun x h1 h2=>by
   have hx:rd[x]?=some (isF rd x):=vm (by rw [hrl2];exact h2)
   exact (hrt x _ hx).2 (qre.2 (HX.out.1.rc x h1 h2))
  have HBX:Hid (∀ (V:World) (p':FP),FV W11 fb p0 V p'->V.cell? ⟨vb,0,none⟩=some (.pointer (some ⟨fb,0,none⟩))/\V.cell? ⟨b1,0,none⟩=some (.int .i64 (S.tk:Int))/\V.cell? ⟨b1,2,none⟩=some (.int .i64 (S.st:Int))/\V.ownsRow w.heap.size 47 4 (.slice (some ⟨g,0,none⟩) rn c) rn (srC qs2)/\(∀ x,x<n->V.cell? ⟨rb,x,none⟩=some (.bool (isF rd x)))/\Below w.heap.size w V):=fun V p' hV=>by
   have hx1:=qf hb11 HN3.out.1.x1
   have hx2:=qf hb11 HN3.out.1.x2
   have hgb2:=zw hgb hb11
   have h1:V.heap[b1]?=some (.cells (sC (shR h g c) (noH S)) 31 (0,0)):=by
    rw [hV.1.block b1 (Array.getElem?_eq_some_iff.1 hx1).1 (HW11.out.1.not ⟨_,hx1⟩ (by decide) (by decide) (by decide) (by decide))]
    exact hx1
   have h2:V.heap[vb]?=some (.cells #[.pointer (some ⟨fb,0,none⟩)] 44 (0,0)):=by
    rw [hV.1.block vb (Array.getElem?_eq_some_iff.1 hx2).1 (HW11.out.1.not ⟨_,hx2⟩ (by decide) (by decide) (by decide) (by decide))]
    exact hx2
   have hrb:W10.heap.size<=rb:=(qw hro (b:=rb) rfl).1
   refine ⟨by rw [qe h2];rfl,by rw [qe h1];rfl,by rw [qe h1];rfl,?_,fun x hx=>?_,HW11.out.2.trans (FV.below HW11.out.1 HW11.out.2.size hV)⟩
   ·rw [<-HRN.out]
    exact qh hgb2 (fun j hj=>by
     cases hj
     exact hV.1.block g (qw hgb2 (b:=g) rfl).2.1 (fun e=>by have:=HN3.out.2.1 g e;omega))
   ·refine qrm (B:=W10.heap.size) (qh hro (fun j hj=>by
     cases hj
     exact hV.1.block rb (qw hro (b:=rb) rfl).2.1 (fun e=>by have:=(HN3.out.1.fm.lt e).2.1;omega))) hx
  have HNU:Hid ((∀ x,isF Ed x=true↔Nul S x)/\Below w.heap.size w W11/\W11.cell? ⟨b1,7,none⟩=some (.slice (some ⟨g,0,none⟩) rn c)):=⟨HN3.out.2.2,HW11.out.2,by
   obtain ⟨-,-,-,-,-,-,-,c7⟩:=sbox (qf hb11 HN3.out.1.x1)
   rw [HRN.out] at c7
   exact c7⟩
  have HJ0:Hid (∃ p' WL',FM W11 w.heap.size fb p' n S.tk Ed WL'/\FV W11 fb p0 W11 p'/\WI S n WL' (0+1)):=⟨p0,_,HW11.out.1,FV.refl _ _ _,WI.begin S n⟩
  clear hrl2 hro hrt hb11 hq2 hgb hqr HN3
  have c7:=HNU.out.2.2
  go_upto_block 0 with fail
  clear c7
  go_cut [34] (fun s34 wd=>Hid (∃ p' WL',FM wd w.heap.size fb p' n S.tk Ed WL'/\FV W11 fb p0 wd p'/\WI S n WL' (rn+1)))
  case first =>
   go_wp2_with fail
   go_loopg [34] rn (fun kx s34 wr=>∃ i:Nat,s34=.int .i64 i/\i<=rn/\rn - i<=kx/\Hid (∃ p' WL',FM wr w.heap.size fb p' n S.tk Ed WL'/\FV W11 fb p0 wr p'/\WI S n WL' (i+1)))
   case atStart=>exact ⟨0,rfl,Nat.zero_le _,by omega,HJ0⟩
   case round =>
    clear HJ0
    obtain ⟨i,rfl,hi,hg,J⟩:=hrel
    by_cases hlt:i<rn
    ·have hlt':(i:Int)<(rn:Int):=by omega
     obtain ⟨p1,WL1,hF1,hV1,hWI⟩:=J.out
     obtain ⟨q,hq,hqs,hqrow⟩:=HR2.out i hlt
     obtain ⟨v0,-,-,hgrow,-,hbw⟩:=HBX.out wr p1 hV1
     obtain ⟨d0,d1,d2,d3⟩:=qfq hgrow hq
     obtain ⟨xl,hxl,hxt,hxn⟩:=HX.out.1.wf.rl (i+1) q.1 (by omega) hqs
     rw [<-HX.out.1.nn] at hxn
     have hmem:=List.mem_of_getElem? hqs
     have HRK:Hid (Rlk S n q.1 xl/\S.rs[i+1]?=some q.1/\S.tk<xl/\Row w 1 q.2.1 q.1.r.length q.2.2 (natC q.1.r)):=⟨⟨hxl,hxn,fun y hy=>⟨(HX.out.1.sy q.1 hmem y hy).1,(HX.out.1.sy q.1 hmem y hy).2⟩,by have:=HX.out.1.ln q.1 hmem;omega⟩,hqs,hxt,hqrow⟩
     have HU:Hid (FM (wr.alloc (.cells #[.int .i64 q.1.l,.slice q.2.1 q.1.r.length q.2.2,.int .i64 q.1.lv,.int .i64 q.1.a] 47)) w.heap.size fb p1 n S.tk Ed WL1/\FV W11 fb p0 (wr.alloc (.cells #[.int .i64 q.1.l,.slice q.2.1 q.1.r.length q.2.2,.int .i64 q.1.lv,.int .i64 q.1.a] 47)) p1/\Below w.heap.size w (wr.alloc (.cells #[.int .i64 q.1.l,.slice q.2.1 q.1.r.length q.2.2,.int .i64 q.1.lv,.int .i64 q.1.a] 47))/\(wr.alloc (.cells #[.int .i64 q.1.l,.slice q.2.1 q.1.r.length q.2.2,.int .i64 q.1.lv,.int .i64 q.1.a] 47)).heap[wr.heap.size]?=some (.cells #[.int .i64 q.1.l,.slice q.2.1 q.1.r.length q.2.2,.int .i64 q.1.lv,.int .i64 q.1.a] 47 (0,0))/\WI S n WL1 (i+1)):=⟨hF1.below (qb _ _),hV1.trans ⟨zk (qb _ _),fun _ e=>.inl e⟩,qd hbw (qb _ _),heap_alloc_new _ _,hWI⟩
     obtain ⟨⟨rl,rr,rlv,ra⟩,qa,qc⟩:=q
     simp only at d0 d1 d2 d3 HRK HU
     clear hF1 hV1 hWI hq hqs hqrow hgrow hbw J hxl hmem
     go_upto_region 8 with fail
     clear v0 d0 d1 d2 d3
     generalize wr.alloc (.cells #[.int .i64 rl,.slice qa rr.length qc,.int .i64 rlv,.int .i64 ra] 47)=U at HU ⊢
     obtain ⟨b6,HB6⟩:∃ b6,Hid (b6=wr.heap.size):=⟨_,rfl⟩
     rw [<-HB6.out] at HU ⊢
     obtain ⟨v0,-,-,-,-,-⟩:=HBX.out U p1 HU.out.2.1
     obtain ⟨e0,e1,e2,e3⟩:U.cell? ⟨b6,0,none⟩=some (.int .i64 rl)/\U.cell? ⟨b6,1,none⟩=some (.slice qa rr.length qc)/\U.cell? ⟨b6,2,none⟩=some (.int .i64 rlv)/\U.cell? ⟨b6,3,none⟩=some (.int .i64 ra):=⟨by rw [qe HU.out.2.2.2.1];rfl,by rw [qe HU.out.2.2.2.1];rfl,by rw [qe HU.out.2.2.2.1];rfl,by rw [qe HU.out.2.2.2.1];rfl⟩
     have HLF:Hid (Calls Tryz.prog 44 #[.pointer (some ⟨fb,0,none⟩),.agg #[.int .i64 rl,.slice qa rr.length qc,.int .i64 rlv,.int .i64 ra]] U fun e W'=>e=.returned (.tuple #[])/\∃ p',p'.eb=p1.eb/\∃ WL',FM W' w.heap.size fb p' n S.tk Ed WL'/\FV U fb p1 W' p'/\FA S n xl rr WL1 WL' rr.length):=qgn w U fb n p1 Ed S WL1 HU.out.1 HU.out.2.2.1 HNU.out.1 ⟨rl,rr,rlv,ra⟩ xl (i+1) qa qc (by omega) HRK.out.2.1 HRK.out.1 HRK.out.2.2.2 HU.out.2.2.2.2.ins HU.out.2.2.2.2.mng HU.out.2.2.2.2.len (by have:=HU.out.2.2.2.2.lle;omega) (by have:=HU.out.2.2.2.2.tot;omega)
     go_wp2_with fail
     refine HLF.out.mono ?_
     rintro e V1 ⟨rfl,p2,-,WL2,hF2,hV2,hA⟩
     clear v0 e0 e1 e2 e3 HLF
     have hnb6:¬ FK fb p1 b6:=HU.out.1.not ⟨_,HU.out.2.2.2.1⟩ (by decide) (by decide) (by decide) (by decide)
     have hs6:V1.heap[b6]?=some (.cells #[.int .i64 rl,.slice qa rr.length qc,.int .i64 rlv,.int .i64 ra] 47 (0,0)):=by
      rw [hV2.1.block b6 (Array.getElem?_eq_some_iff.1 HU.out.2.2.2.1).1 hnb6]
      exact HU.out.2.2.2.1
     have HV1:Hid (FM V1 w.heap.size fb p2 n S.tk Ed WL2/\FV W11 fb p0 V1 p2/\FA S n xl rr WL1 WL2 rr.length):=⟨hF2,HU.out.2.1.trans hV2,hA⟩
     obtain ⟨v0,-,-,-,hrd,hbw⟩:=HBX.out V1 p2 HV1.out.2.1
     have hcx:=hrd xl hxn
     rw [HRF.out xl hxt hxn] at hcx
     have hrlx:rl=(xl:Int):=HRK.out.1.l
     obtain ⟨e0,e1,e2,e3⟩:V1.cell? ⟨b6,0,none⟩=some (.int .i64 rl)/\V1.cell? ⟨b6,1,none⟩=some (.slice qa rr.length qc)/\V1.cell? ⟨b6,2,none⟩=some (.int .i64 rlv)/\V1.cell? ⟨b6,3,none⟩=some (.int .i64 ra):=⟨by rw [qe hs6];rfl,by rw [qe hs6];rfl,by rw [qe hs6];rfl,by rw [qe hs6];rfl⟩
     have hw2:=WI.first (r:=⟨rl,rr,rlv,ra⟩) HU.out.2.2.2.2 hA
     have HLB:Hid (Calls Tryz.prog 45 #[.pointer (some ⟨fb,0,none⟩),.agg #[.int .i64 rl,.slice qa rr.length qc,.int .i64 rlv,.int .i64 ra]] V1 fun e W'=>e=.returned (.tuple #[])/\∃ p',p'.eb=p2.eb/\∃ WL',FM W' w.heap.size fb p' n S.tk Ed WL'/\FV V1 fb p2 W' p'/\∃ q,FB S n xl rr WL2 WL' 0 q):=qfs w V1 fb n (by omega) (by omega) p2 Ed S WL2 hF2 hbw HNU.out.1 ⟨rl,rr,rlv,ra⟩ xl (i+1) qa qc (by omega) HRK.out.2.1 HRK.out.1 HRK.out.2.2.2 hw2.2.1 hw2.1 hw2.2.2 (by rw [hA.len];have:=HU.out.2.2.2.2.lle;omega) (by have:=hA.tot;have:=HU.out.2.2.2.2.tot;have:=HRK.out.1.ln;simp only at this;omega)
     subst hrlx
     have hxn':(xl:Int)<(n:Int):=by omega
     clear hF2 hV2 hA hs6 hrd hbw hw2 hnb6
     go_wp2_with fail
     refine HLB.out.mono ?_
     rintro e V2 ⟨rfl,p3,-,WL3,hF3,hV3,qq,hB⟩
     have HF:Hid (∃ p' WL',FM V2 w.heap.size fb p' n S.tk Ed WL'/\FV W11 fb p0 V2 p'/\WI S n WL' (i+1+1)):=⟨p3,WL3,hF3,HV1.out.2.1.trans hV3,WI.next (r:=⟨(xl:Int),rr,rlv,ra⟩) HU.out.2.2.2.2 HV1.out.2.2 hB HRK.out.2.1 HRK.out.1.l HRK.out.1.ln⟩
     clear v0 e0 e1 e2 e3 HLB hF3 hV3 hB hcx
     go_wp2_with fail
     go_roundg (rn - (i+1))
     case measure=>omega
     case rel=>exact ⟨i+1,by simp,by omega,Nat.le_refl _,HF⟩
    ·have hlt':¬ (i:Int)<(rn:Int):=by omega
     have HF:Hid (∃ p' WL',FM wr w.heap.size fb p' n S.tk Ed WL'/\FV W11 fb p0 wr p'/\WI S n WL' (rn+1)):=by
      have:i=rn:=by omega
      subst this
      exact J.out
     clear J
     go_wp2_with fail
     go_meet
     exact HF
  case rest =>
   obtain ⟨w12,hw12⟩:∃ w12,w12=wc:=⟨_,rfl⟩
   subst wc
   obtain ⟨p1,WL1,hF1,hV1,hWI⟩:=hcut.out
   obtain ⟨v0,b10,b12,-,-,hbw⟩:=HBX.out w12 p1 hV1
   have hst:=HX.out.1.wf.st
   have hstn:S.st<n:=by rw [HNN.out];exact hst.2
   have hd:decide ((S.tk:Int)<(S.st:Int)/\(S.st:Int)<(n:Int))=true:=by rw [decide_eq_true_eq];omega
   obtain ⟨l,hl⟩:∃ l,WL1[n+S.st]?=some l:=⟨WL1[n+S.st]'(by have:=hWI.len;omega),List.getElem?_eq_getElem _⟩
   have hF2:=hF1.below (qk w12)
   have hwi2:=hWI
   rw [<-HRS.out] at hwi2
   have hwys:=hwi2.done hstn (by omega:S.tk<n) (fun t hf=>by have:=(qg9 HX.out.1.wf (Nat.le_refl _) hf).1;omega) hl
   have hbd:Below w.heap.size w w12.drew:=qd hbw (qk _)
   have HLY:Hid (Calls Tryz.prog 47 #[.pointer (some ⟨fb,0,none⟩),.int .i64 ((n+S.st:Nat):Int),.int .i64 (S.tk:Int)] w12.drew fun e W'=>∃ (xa:Option Addr) (xc:Nat),e=.returned (.tuple #[])/\∃ p2,FS W' w.heap.size fb p2 n S Ed (WL1.set (n+S.st) (l++[S.tk]))/\FV W11 fb p0 W' p2):=(qdf w12.drew w.heap.size fb n S.tk p1 Ed WL1 hF2 hbd.size (n+S.st) S.tk l hl (by have:=qf4 hl;have:=hWI.tot;omega)).mono (fun e W' ⟨h1,p2,_,h3,h4⟩=>⟨none,0,h1,p2,⟨h3,hwys,HNU.out.1,HNN.out,by rw [List.length_set];have:=hWI.lle;omega,by rw [qcu hl];have:=hWI.tot;omega,HX.out.1.wf,HX.out.1.sy⟩,(hV1.trans (show FV w12 fb p1 w12.drew p1 from ⟨zk (qk _),fun _ e=>.inl e⟩)).trans h4⟩)
   have HBH:Hid (Calls Tryz.prog 48 #[.pointer (some ⟨fb,0,none⟩),.int .i64 (S.st:Int)] w12.drew fun e w'=>e=.returned (.int .i64 ((n+S.st:Nat):Int))/\w'=w12.drew):=yw w12.drew fb n n S.st _ hF2.c1 (by omega) hstn
   have HLEFT:Hid (Calls Tryz.prog 46 #[.pointer (some ⟨fb,0,none⟩),.int .i64 (S.st:Int)] w12 fun e w'=>e=.returned (.bool true)/\w'=w12):=by
    rw [<-hd]
    exact jt w12 fb S.tk n n _ hF1.c0 hF1.c1 (S.st:Int)
   clear hcut hF1 hV1 hWI hF2 hwi2 hwys hbd hd hl hbw hst hstn
   go_wp2_with fail
   refine HLEFT.out.mono ?_
   rintro e w13 ⟨rfl,rfl⟩
   clear HLEFT
   go_upto_region 13 with fail
   refine wp_region_held_drew (S:=fun w'=>w'.cell? ⟨vb,0,none⟩=some (.pointer (some ⟨fb,0,none⟩))/\w'.cell? ⟨b1,0,none⟩=some (.int .i64 (S.tk:Int))/\w'.cell? ⟨b1,2,none⟩=some (.int .i64 (S.st:Int))) (by kernel_rfl) ⟨v0,b10,b12⟩ (fun hHeld=>?_)
   refine wpAnyH_take (i:=0) (v:=.pointer (some ⟨fb,0,none⟩)) rfl (by kernel_rfl) (by kernel_rfl) (by kernel_rfl) (fun _ _ _ h=>h) (Or.inl ⟨by rfl,fun w9 hSw=>?_⟩) hHeld ?_
   ·(obtain ⟨hs1,hs2,hs3⟩:=hSw;go_simp)
   simp only [Act.put]
   refine wpAnyH_take (i:=1) (v:=.pointer (some ⟨fb,0,none⟩)) rfl (by kernel_rfl) (by kernel_rfl) (by kernel_rfl) (fun _ _ _ h=>h) (Or.inl ⟨by rfl,fun w9 hSw=>?_⟩) hHeld ?_
   ·(obtain ⟨hs1,hs2,hs3⟩:=hSw;go_simp)
   simp only [Act.put]
   refine wpAnyH_take (i:=2) (v:=.pointer (some ⟨b1,2,none⟩)) rfl (by kernel_rfl) (by kernel_rfl) (by kernel_rfl) (fun _ _ _ h=>h) (Or.inl ⟨by rfl,fun w9 hSw=>?_⟩) hHeld ?_
   ·(obtain ⟨hs1,hs2,hs3⟩:=hSw;go_simp)
   simp only [Act.put]
   refine wpAnyH_take (i:=3) (v:=.int .i64 (S.st:Int)) rfl (by kernel_rfl) (by kernel_rfl) (by kernel_rfl) (fun _ _ _ h=>h) (Or.inl ⟨by rfl,fun w9 hSw=>?_⟩) hHeld ?_
   ·(obtain ⟨hs1,hs2,hs3⟩:=hSw;go_simp)
   simp only [Act.put]
   refine wpAnyH_take (i:=5) (v:=.pointer (some ⟨b1,0,none⟩)) rfl (by kernel_rfl) (by kernel_rfl) (by kernel_rfl) (fun _ _ _ h=>h) (Or.inl ⟨by rfl,fun w9 hSw=>?_⟩) hHeld ?_
   ·(obtain ⟨hs1,hs2,hs3⟩:=hSw;go_simp)
   simp only [Act.put]
   refine wpAnyH_take (i:=6) (v:=.int .i64 (S.tk:Int)) rfl (by kernel_rfl) (by kernel_rfl) (by kernel_rfl) (fun _ _ _ h=>h) (Or.inl ⟨by rfl,fun w9 hSw=>?_⟩) hHeld ?_
   ·(obtain ⟨hs1,hs2,hs3⟩:=hSw;go_simp)
   simp only [Act.put]
   refine wpAnyH_ready (rs:=[4]) (by kernel_rfl) (by simp) ?_
   refine AllReadyH.cons rfl (fun K hK=>?_) AllReadyH.nil
   refine qcz rfl 48 #[.pointer (some ⟨fb,0,none⟩),.int .i64 (S.st:Int)] (.int .i64 ((n+S.st:Nat):Int)) (by simp [Act.eval,go_sem]) HBH.out (hK.out _ _ ⟨v0,b10,b12⟩ (fun hHeld=>?_))
   clear hK K
   simp only [Act.put]
   refine wpAnyH_ready (rs:=[7]) (by kernel_rfl) (by simp) ?_
   refine AllReadyH.cons rfl (fun K hK=>?_) AllReadyH.nil
   refine jy rfl 47 #[.pointer (some ⟨fb,0,none⟩),.int .i64 ((n+S.st:Nat):Int),.int .i64 (S.tk:Int)] (fun _ _=>.tuple #[]) _ (by simp [Act.eval,go_sem]) HLY.out (fun xa xc V hV=>?_)
   obtain ⟨p2,hFS,hVV⟩:=hV
   obtain ⟨x0,x10,x12,-,-,hbV⟩:=HBX.out V p2 hVV
   have HZZ:Hid (FS V w.heap.size fb p2 n S Ed (WL1.set (n+S.st) (l++[S.tk]))/\Below w.heap.size w V):=⟨hFS,hbV⟩
   refine hK.out _ _ ⟨x0,x10,x12⟩ (fun hHeld=>?_)
   clear hK K hFS hVV hbV
   simp only [Act.put]
   refine wpAnyH_done (by kernel_rfl) ?_ _
   go_wp2_with fail
   go_ret
   exact ⟨fb,p2,Ed,_,rfl,HZZ.out⟩
end Go.Proofs.YtngclmglmhiljaaGreatDoor
