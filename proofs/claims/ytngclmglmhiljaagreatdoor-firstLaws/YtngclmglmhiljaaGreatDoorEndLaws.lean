/-
  Of any grammar that means something: what a rule's symbols can begin with its Left can begin with, and behind a rule's last symbol all stands that stands behind its Left.
-/
import Derived.ChangeSlices
import Derived.Deep.Matrix
import Derived.Test.YtngclmglmhiljaaGreatDoorCards
import Derived.Test.YtngclmglmhiljaaGreatDoorTie
import Derived.OpenShut
import Derived.ShutString
import Derived.ChangeOld
import Derived.Below
import Derived.SevenTiedAt
import Derived.Test.YtngclmglmhiljaaGreatDoorOthLaws
set_option maxHeartbeats 16000000
set_option maxRecDepth 100000
namespace Go.Proofs.YtngclmglmhiljaaGreatDoor
open Go.RowKit
theorem qjf (l:List Nat) (x:Nat) (b:Bool) (a:Option Addr) (n k:Nat) (w:World) (h:Row w 1 a n k (natC l)) (hn:l.length=n) (hn2:n<=1000) (hb:b=true↔x∈l) :
  Calls Tryz.prog 22 #[.slice a n k,.int .i64 (x:Int)] w fun e w'=>e=.returned (.bool b)/\w'=w:=by
 have HE:Hid (l.length=n):=hn
 have HR:Hid (Row w 1 a n k (natC l)):=h
 have HB:Hid (b=true↔x∈l):=hb
 have q1:=ze h
 clear hn h hb
 go_enter Tryz.func22,Tryz.ntmps22
 go_wp2_with fail
 go_loopg [5] n (fun kx s5 wr=>∃ i:Nat,s5=.int .i64 i/\i<=n/\n - i<=kx/\wr=w/\Hid (∀ z∈l.take i,z≠x))
 case atStart=>exact ⟨0,rfl,Nat.zero_le _,by omega,rfl,(fun z hz=>(by cases hz):∀ z∈l.take 0,z≠x)⟩
 case round =>
  obtain ⟨i,rfl,hi,hg,rfl,J⟩:=hrel
  by_cases hlt:i<n
  ·have hlt':(i:Int)<(n:Int):=by omega
   obtain ⟨z,hz⟩:∃ z,l[i]?=some z:=⟨l[i]'(by rw [HE.out];exact hlt),List.getElem?_eq_getElem _⟩
   obtain ⟨b1,o1,rfl,c1⟩:=vj HR.out hz
   have HZ:Hid (l[i]?=some z):=hz
   clear hz
   by_cases hzx:z=x
   ·subst hzx
    have hbt:b=true:=HB.out.2 (List.mem_of_getElem? HZ.out)
    subst hbt
    have hd:((z:Int) == (z:Int))=true:=beq_self_eq_true _
    go_wp2_with fail
    go_ret
    exact ⟨rfl,rfl⟩
   ·have hd:((z:Int) == (x:Int))=false:=by
     rw [beq_eq_false_iff_ne]
     omega
    have HF:Hid (∀ y∈l.take (i+1),y≠x):=by
     intro y hy
     rw [List.take_add_one,List.mem_append] at hy
     rcases hy with hy | hy
     ·exact J.out y hy
     ·rw [HZ.out,Option.toList_some,List.mem_singleton] at hy
      subst hy
      exact hzx
    clear J
    go_wp2_with fail
    go_roundg (n - (i+1))
    case measure=>omega
    case rel=>exact ⟨i+1,by simp,by omega,Nat.le_refl _,rfl,HF⟩
  ·have hlt':¬ (i:Int)<(n:Int):=by omega
   have hbf:b=false:=by
    cases hb:b
    ·rfl
    ·have hm:=HB.out.1 hb
     have:i=n:=by omega
     subst this
     have:=J.out
     rw [<-HE.out,List.take_length] at this
     exact absurd rfl (this x hm)
   subst hbf
   go_wp2_with fail
   go_ret
   exact ⟨rfl,rfl⟩
theorem qsk (l m:List Nat) (x:Int) (a a2:Option Addr) (n k n2 k2:Nat) (w:World) (h:Row w 1 a n k (natC l)) (hn:l.length=n) (hn2:n<=1000) (h2:Row w 1 a2 n2 k2 (natC m)) (hm:m.length=n2) (hm2:n2<=1000) (hin:∀ z∈l,(z:Int)≠x->z∈m) :
  Calls Tryz.prog 18 #[.slice a n k,.slice a2 n2 k2,.int .i64 x] w fun e w'=>e=.returned (.bool true)/\w'=w:=by
 have HE:Hid (l.length=n):=hn
 have HR:Hid (Row w 1 a n k (natC l)):=h
 have HI:Hid (∀ z∈l,(z:Int)≠x->z∈m):=hin
 have HC:Hid (∀ z:Nat,z∈m->Calls Tryz.prog 22 #[.slice a2 n2 k2,.int .i64 (z:Int)] w fun e w'=>e=.returned (.bool true)/\w'=w):=fun z hz=>qjf m z true a2 n2 k2 w h2 hm hm2 ⟨fun _=>hz,fun _=>rfl⟩
 have q1:=ze h
 clear hn h hin h2 hm hm2
 go_enter Tryz.func18,Tryz.ntmps18
 go_wp2_with fail
 go_loopg [7] n (fun kx s7 wr=>∃ i:Nat,s7=.int .i64 i/\i<=n/\n - i<=kx/\wr=w)
 case atStart=>exact ⟨0,rfl,Nat.zero_le _,by omega,rfl⟩
 case round =>
  obtain ⟨i,rfl,hi,hg,rfl⟩:=hrel
  by_cases hlt:i<n
  ·have hlt':(i:Int)<(n:Int):=by omega
   obtain ⟨z,hz⟩:∃ z,l[i]?=some z:=⟨l[i]'(by rw [HE.out];exact hlt),List.getElem?_eq_getElem _⟩
   obtain ⟨b1,o1,rfl,c1⟩:=vj HR.out hz
   have hzm:=HI.out z (List.mem_of_getElem? hz)
   clear hz
   by_cases hzx:(z:Int)=x
   ·have hd:((z:Int) == x)=true:=by rw [beq_iff_eq];exact hzx
    go_wp2_with fail
    go_roundg (n - (i+1))
    case measure=>omega
    case rel=>exact ⟨i+1,by simp,by omega,Nat.le_refl _,rfl⟩
   ·have hd:((z:Int) == x)=false:=by rw [beq_eq_false_iff_ne];exact hzx
    have HZ:=HC.out z (hzm hzx)
    go_wp2_with fail
    refine HZ.mono ?_
    rintro e w1 ⟨rfl,rfl⟩
    go_wp2_with fail
    go_roundg (n - (i+1))
    case measure=>omega
    case rel=>exact ⟨i+1,by simp,by omega,Nat.le_refl _,rfl⟩
  ·have hlt':¬ (i:Int)<(n:Int):=by omega
   go_wp2_with fail
   go_ret
   exact ⟨rfl,rfl⟩
theorem qsx {G:Gm} {k:Int} (hk:OfR G k) (h0:k=0):∃ n,NSp (spK G k) n:=by
 unfold spK
 rw [if_pos h0]
 subst h0
 exact ⟨_,qqy hk⟩
theorem qmh {m:Nat} {Q:Nat->Prop} {l:List Nat} (h:IsL m Q l) (t:Nat):t∈l↔t<m/\Q t:=by
 obtain ⟨b,hb,rfl⟩:=h
 rw [List.mem_filter,List.mem_range]
 constructor
 ·rintro ⟨h1,h2⟩
  exact ⟨h1,(hb t h1).1 h2⟩
 ·rintro ⟨h1,h2⟩
  exact ⟨h1,(hb t h1).2 h2⟩
theorem qo6 {m:Nat} {Q:Nat->Prop} {l:List Nat} (h:IsL m Q l):l.length<=m:=by
 obtain ⟨b,hb,rfl⟩:=h
 have:=List.length_filter_le b (List.range m)
 rw [List.length_range] at this
 exact this
end Go.Proofs.YtngclmglmhiljaaGreatDoor
namespace Go.Proofs.YtngclmglmhiljaaGreatDoor.Laws
open Go.RowKit
theorem qhv {V:World} {m:Nat} {P Q:Nat->Prop} {l k:List Nat} {a b:Option Addr} {c d:Nat} {x:Int} (hm:m<=1000) (hl:IsL m P l) (hk:IsL m Q k) (ra:Row V 1 a l.length c (natC l)) (rb:Row V 1 b k.length d (natC k)) (h:∀ t,t<m->P t->(t:Int)≠x->Q t) :
  Calls Tryz.prog 18 #[.slice a l.length c,.slice b k.length d,.int .i64 x] V fun e w'=>e=.returned (.bool true)/\w'=V :=
 qsk l k x a b l.length c k.length d V ra rfl (Nat.le_trans (qo6 hl) hm) rb rfl (Nat.le_trans (qo6 hk) hm) (fun z hz hx=>by
  have h1:=(qmh hl z).1 hz
  exact (qmh hk z).2 ⟨h1.1,h z h1.1 h1.2 hx⟩)
theorem walk (h:Hd) (G:Gm) (w:World) (hp:Pow w) (hG:RawG w h G):Calls Tryz.prog 5 #[gv h G] w fun e w'=>e=.returned (.bool true)/\Below w.heap.size w w':=by
 obtain ⟨ta,tc,ra,rc⟩:=h
 obtain ⟨k,hk⟩:=qsj (cutG G)
 have HK:Hid (OfR (cutG G) k):=hk
 have hv:Below w.heap.size w (w.alloc (.cells #[.slice ta G.ts.length tc,.string G.s,.int .i64 G.e,.slice ra G.rs.length rc] 25)):=qb _ _
 have hx:(w.alloc (.cells #[.slice ta G.ts.length tc,.string G.s,.int .i64 G.e,.slice ra G.rs.length rc] 25)).heap[w.heap.size]?=some (.cells #[.slice ta G.ts.length tc,.string G.s,.int .i64 G.e,.slice ra G.rs.length rc] 25 (0,0)):=heap_alloc_new _ _
 have HR:Hid (RawG (w.alloc (.cells #[.slice ta G.ts.length tc,.string G.s,.int .i64 G.e,.slice ra G.rs.length rc] 25)) ⟨ta,tc,ra,rc⟩ G/\Pow (w.alloc (.cells #[.slice ta G.ts.length tc,.string G.s,.int .i64 G.e,.slice ra G.rs.length rc] 25))):=⟨hG.below hv,hp.below hv⟩
 clear hG hp hk
 unfold gv
 simp only
 obtain ⟨tn,HTN⟩:∃ tn,Hid (G.ts.length=tn):=⟨_,rfl⟩
 obtain ⟨rn,HRN⟩:∃ rn,Hid (G.rs.length=rn):=⟨_,rfl⟩
 rw [HTN.out] at hv hx HR ⊢
 rw [HRN.out] at hv hx HR ⊢
 go_enter Tryz.func5,Tryz.ntmps5
 go_upto_region 1 with fail
 generalize w.alloc (.cells #[.slice ta tn tc,.string G.s,.int .i64 G.e,.slice ra rn rc] 25)=W1 at hv hx HR ⊢
 obtain ⟨nb,HNB⟩:∃ nb,Hid (nb=w.heap.size):=⟨_,rfl⟩
 rw [<-HNB.out] at hx ⊢
 have H1:Hid (Below w.heap.size w W1/\W1.heap[nb]?=some (.cells #[.slice ta tn tc,.string G.s,.int .i64 G.e,.slice ra rn rc] 25 (0,0))):=⟨hv,hx⟩
 clear hv hx
 go_wp2_with fail
 refine (qku W1 HR.out.2).mono ?_
 rintro e V1 ⟨rfl,hB⟩
 have HV1:Hid (RawG V1 ⟨ta,tc,ra,rc⟩ G/\Below w.heap.size w V1/\V1.heap[nb]?=some (.cells #[.slice ta tn tc,.string G.s,.int .i64 G.e,.slice ra rn rc] 25 (0,0))):=⟨HR.out.1.below hB,qd H1.out.1 hB,qf hB H1.out.2⟩
 clear hB HR H1
 obtain ⟨p0,p1,p2,p3⟩:=box4 HV1.out.2.2
 have HCUT:Hid (Calls Tryz.prog 11 #[.agg #[.slice ta tn tc,.string G.s,.int .i64 G.e,.slice ra rn rc]] V1 fun e w'=>∃ h' qs,e=.returned (gv h' (cutG G))/\OwnG w' V1.heap.size h' (cutG G) qs/\Below V1.heap.size V1 w'):=by
  have:=qnk G ⟨ta,tc,ra,rc⟩ V1 HV1.out.1
  unfold gv at this
  simp only at this
  rw [HTN.out,HRN.out] at this
  exact this
 go_wp2_with fail
 refine HCUT.out.mono ?_
 rintro e V2 ⟨⟨ta2,tc2,ra2,rc2⟩,qs,rfl,ho,hB⟩
 have H2:Hid (IsG V2 ⟨ta2,tc2,ra2,rc2⟩ (cutG G)/\Below w.heap.size w V2):=⟨ho.isG (qo5 G),qd HV1.out.2.1 hB⟩
 clear ho hB HCUT HV1 p0 p1 p2 p3
 have HRF:Hid (Calls Tryz.prog 10 #[gv ⟨ta2,tc2,ra2,rc2⟩ (cutG G)] V2 fun e w'=>∃ h',e=.returned (.tuple #[.agg (sC h' (spK (cutG G) k)),.int .i64 k])/\IsSp w' h' (spK (cutG G) k)/\Below V2.heap.size V2 w'):=qmg (cutG G) ⟨ta2,tc2,ra2,rc2⟩ V2 k H2.out.1 HK.out
 have HNS:Hid (k=0->∃ n,NSp (spK (cutG G) k) n):=qsx HK.out
 generalize spK (cutG G) k=S at HRF HNS
 generalize gv ⟨ta2,tc2,ra2,rc2⟩ (cutG G)=gg at HRF ⊢
 go_wp2_with fail
 refine HRF.out.mono ?_
 rintro e V4 ⟨h1,rfl,hs1,hB4⟩
 have hv:Below V4.heap.size V4 (V4.alloc (.cells (sC h1 S) 31)):=qb _ _
 have H4:Hid (Below w.heap.size w (V4.alloc (.cells (sC h1 S) 31))/\IsSp (V4.alloc (.cells (sC h1 S) 31)) h1 S/\(V4.alloc (.cells (sC h1 S) 31)).heap[V4.heap.size]?=some (.cells (sC h1 S) 31 (0,0))):=⟨qd (qd H2.out.2 hB4) hv,hs1.below hv,heap_alloc_new _ _⟩
 clear hs1 hB4 hv H2 HRF
 unfold sC
 go_upto_region 5 with fail
 have e4:V4.alloc (.cells #[.int .i64 (S.tk:Int),.int .i64 (S.nt:Int),.int .i64 (S.st:Int),.int .i64 S.ex,.slice h1.na S.nm.length h1.nc,.slice h1.la S.lv.length h1.lc,.slice h1.aa S.az.length h1.ac,.slice h1.ra S.rs.length h1.rc] 31)=V4.alloc (.cells (sC h1 S) 31):=rfl
 rw [e4]
 generalize V4.alloc (.cells (sC h1 S) 31)=V5 at H4 ⊢
 generalize V4.heap.size=b1 at H4 ⊢
 clear e4
 by_cases h0:k=0
 ·obtain ⟨n,hns⟩:=HNS.out h0
  have HN:Hid (Calls Tryz.prog 17 #[.agg #[.int .i64 (S.tk:Int),.int .i64 (S.nt:Int),.int .i64 (S.st:Int),.int .i64 S.ex,.slice h1.na S.nm.length h1.nc,.slice h1.la S.lv.length h1.lc,.slice h1.aa S.az.length h1.ac,.slice h1.ra S.rs.length h1.rc]] V5 fun e w'=>∃ fb p E WL,e=.returned (.pointer (some ⟨fb,0,none⟩))/\FS w' V5.heap.size fb p n S E WL/\Below V5.heap.size V5 w'):=qgs V5 h1 S n hns H4.out.2.1
  have HNN:Hid (NSp S n):=hns
  subst h0
  clear hns
  obtain ⟨c0,c1,c2,c3,c4,c5,c6,c7⟩:=sbox H4.out.2.2
  go_wp2_with fail
  refine HN.out.mono ?_
  rintro e V6 ⟨fb,p,E,WL,rfl,hfs,hB6⟩
  clear c0 c1 c2 c3 c4 c5 c6 c7 HN
  have H6:Hid (FS V6 V5.heap.size fb p n S E WL/\Below w.heap.size w V6/\V6.heap[b1]?=some (.cells (sC h1 S) 31 (0,0))/\IsSp V6 h1 S):=⟨hfs,qd H4.out.1 hB6,qf hB6 H4.out.2.2,H4.out.2.1.below hB6⟩
  clear hfs hB6 H4 HNS HK HTN HRN HNB
  have htk:=HNN.out.wf.tk
  have hrs40:=HNN.out.nr
  have hrs1:0<S.rs.length:=(List.getElem?_eq_some_iff.1 HNN.out.wf.hd).1
  go_wp2_with fail
  go_loopg [7] S.rs.length (fun kx s7 wr=>∃ i:Nat,s7=.int .i64 i/\1<=i/\i<=S.rs.length/\S.rs.length - i<=kx/\Hid (Below V6.heap.size V6 wr))
  case atStart=>exact ⟨1,rfl,Nat.le_refl _,hrs1,by omega,(Below.refl _ _:Below V6.heap.size V6 V6)⟩
  case round =>
   obtain ⟨i,rfl,hi1,hi,hg,J⟩:=hrel
   have hbx:=qf J.out H6.out.2.2.1
   by_cases hlt:i<S.rs.length
   ·have hlt':(i:Int)<(S.rs.length:Int):=by omega
    obtain ⟨r,hri⟩:∃ r,S.rs[i]?=some r:=⟨_,List.getElem?_eq_getElem hlt⟩
    obtain ⟨x,hx,hx1,hx2⟩:=HNN.out.wf.rl i r (by omega) hri
    obtain ⟨b,o,xa,xc,ha,d0,d1,d2,d3,hrow⟩:=(H6.out.2.2.2.below J.out).rl.at hri
    obtain ⟨-,-,-,-,-,-,-,c7⟩:=sbox hbx
    rw [hx] at d0
    rw [ha] at c7
    clear ha
    have hln:=HNN.out.ln r (List.mem_of_getElem? hri)
    obtain ⟨ln,HLN⟩:∃ ln,Hid (r.r.length=ln):=⟨_,rfl⟩
    rw [HLN.out] at d1 hrow hln
    have hb2:Below wr.heap.size wr (wr.alloc (.cells #[.int .i64 (x:Int),.slice xa ln xc,.int .i64 r.lv,.int .i64 r.a] 47)):=qb _ _
    have hn2:(wr.alloc (.cells #[.int .i64 (x:Int),.slice xa ln xc,.int .i64 r.lv,.int .i64 r.a] 47)).heap[wr.heap.size]?=some (.cells #[.int .i64 (x:Int),.slice xa ln xc,.int .i64 r.lv,.int .i64 r.a] 47 (0,0)):=heap_alloc_new _ _
    have H7:Hid (Below V6.heap.size V6 (wr.alloc (.cells #[.int .i64 (x:Int),.slice xa ln xc,.int .i64 r.lv,.int .i64 r.a] 47))/\(wr.alloc (.cells #[.int .i64 (x:Int),.slice xa ln xc,.int .i64 r.lv,.int .i64 r.a] 47)).heap[wr.heap.size]?=some (.cells #[.int .i64 (x:Int),.slice xa ln xc,.int .i64 r.lv,.int .i64 r.a] 47 (0,0))/\Row (wr.alloc (.cells #[.int .i64 (x:Int),.slice xa ln xc,.int .i64 r.lv,.int .i64 r.a] 47)) 1 xa ln xc (natC r.r)):=⟨qd J.out hb2,hn2,hrow.below hb2⟩
    have HRI:Hid (S.rs[i]?=some r/\r.l=(x:Int)/\S.tk<x/\x<n):=⟨hri,hx,hx1,by rw [HNN.out.nn];exact hx2⟩
    have hxlen:=ze hrow
    clear hb2 hn2 J hbx hri hx hx1 hx2 hrow
    go_upto_region 12 with fail
    clear c7 d0 d1 d2 d3
    generalize wr.alloc (.cells #[.int .i64 (x:Int),.slice xa ln xc,.int .i64 r.lv,.int .i64 r.a] 47)=W2 at H7 ⊢
    generalize wr.heap.size=b2 at H7 ⊢
    have CC:Hid (∀ V:World,Below W2.heap.size W2 V->V.cell? ⟨b2,0,none⟩=some (.int .i64 (x:Int))/\V.cell? ⟨b2,1,none⟩=some (.slice xa ln xc)/\V.cell? ⟨b1,0,none⟩=some (.int .i64 (S.tk:Int))):=fun V hV=>by
     have g2:=qf hV H7.out.2.1
     have g1:=qf (qd H7.out.1 hV) H6.out.2.2.1
     exact ⟨by rw [qe g2];rfl,by rw [qe g2];rfl,by rw [qe g1];rfl⟩
    have HOF:Hid (∀ V:World,Below W2.heap.size W2 V->Calls Tryz.prog 19 #[.pointer (some ⟨fb,0,none⟩),.slice xa ln xc,.int .i64 (S.tk:Int)] V fun e W'=>Told V W' (S.tk+1) (fun t=>FstL S r.r t\/((∀ z∈r.r,Nul S z)/\(t:Int)=(S.tk:Int))) e):=fun V hV=>qck V _ fb n p E S WL (H6.out.1.below (qd H7.out.1 hV)) r.r xa ln xc HLN.out (by omega) (H7.out.2.2.below hV) (fun z hz=>HNN.out.sy r (List.mem_of_getElem? HRI.out.1) z hz) S.tk (.inr ⟨by omega,Int.le_refl _⟩)
    have HFI:Hid (∀ V:World,Below W2.heap.size W2 V->Calls Tryz.prog 20 #[.pointer (some ⟨fb,0,none⟩),.int .i64 (x:Int)] V fun e W'=>Told V W' (S.tk+1) (FstP S x) e):=fun V hV=>qgt V _ fb n p E S WL (H6.out.1.below (qd H7.out.1 hV)) x HRI.out.2.2.2 (by have:=HRI.out.2.2.1;omega)
    have HFO:Hid (∀ (y:Nat),S.tk<y->y<n->∀ V:World,Below W2.heap.size W2 V->Calls Tryz.prog 21 #[.pointer (some ⟨fb,0,none⟩),.int .i64 (y:Int)] V fun e W'=>Told V W' (S.tk+1) (FolP S y) e):=fun y hy1 hy2 V hV=>qdx V _ fb n p E S WL (H6.out.1.below (qd H7.out.1 hV)) y hy2 hy1
    have HIN:Hid (∀ t,t<S.tk+1->(FstL S r.r t\/((∀ z∈r.r,Nul S z)/\(t:Int)=(S.tk:Int)))->(t:Int)≠(S.tk:Int)->FstP S x t):=fun t _ h hne=>by
     rcases h with h | ⟨-,h⟩
     ·exact qsv (by omega) HRI.out.1 HRI.out.2.1 h
     ·exact absurd h hne
    go_cut [48] (fun s48 wd=>s48=.bool false/\Hid (Below W2.heap.size W2 wd))
    case first =>
     go_region_held (fun w'=>w'.cell? ⟨b2,0,none⟩=some (.int .i64 (x:Int))/\w'.cell? ⟨b2,1,none⟩=some (.slice xa ln xc)/\w'.cell? ⟨b1,0,none⟩=some (.int .i64 (S.tk:Int))) (first | exact CC.out _ HBA.out | exact CC.out _ HBB.out | exact CC.out _ (qk _)) (first
      | (go_at_call 19;refine (HOF.out _ (by first | exact HBB.out | exact qk _)).mono ?_;rintro e VA ⟨lA,pA,qA,rfl,hlA,hrA,hbA⟩;have HBA:Hid (Below W2.heap.size W2 VA):=(by first | exact qd HBB.out hbA | exact qd (qk _) hbA))
      | (go_at_call 20;refine (HFI.out _ (by first | exact HBA.out | exact qk _)).mono ?_;rintro e VB ⟨lB,pB,qB,rfl,hlB,hrB,hbB⟩;have HBB:Hid (Below W2.heap.size W2 VB):=(by first | exact qd HBA.out hbB | exact qd (qk _) hbB))
      | (go_at_call 18;refine (by first | exact qhv (by omega) hlA hlB (Row.of_own hrA) ((Row.of_own hrB).below hbA) HIN.out | exact qhv (by omega) hlA hlB ((Row.of_own hrA).below hbB) (Row.of_own hrB) HIN.out:Calls Tryz.prog 18 #[.slice pA lA.length qA,.slice pB lB.length qB,.int .i64 (S.tk:Int)] _ fun e w'=>e=.returned (.bool true)/\w'=_).mono ?_;rintro e VC ⟨rfl,rfl⟩))
     all_goals (go_wp2_with fail;go_meet;exact ⟨rfl,by first | exact HBB | exact HBA⟩)
    case rest =>
     obtain ⟨rfl,J7⟩:=hcut
     obtain ⟨w3,hw3⟩:∃ w3,w3=wc:=⟨_,rfl⟩
     subst wc
     clear HOF HFI HIN
     obtain ⟨c0,c1,c2⟩:=CC.out w3 J7.out
     have HQ:Hid (∀ q,Below V6.heap.size V6 (w3.drewN q)):=fun q=>qd (qd H7.out.1 J7.out) (yh (Below.refl _ _) q)
     have mx:=qay
     by_cases hz:ln=0
     ·have hz':¬ (0:Int)<(ln:Int):=by omega
      go_upto_region 15 with fail
      go_quiet (fail)
      go_wp2_with fail
      go_roundg (S.rs.length - (i+1))
      case measure=>omega
      case rel=>exact ⟨i+1,by simp,by omega,by omega,Nat.le_refl _,HQ.out _⟩
     ·obtain ⟨m,rfl⟩:∃ m,ln=m+1:=⟨ln - 1,by omega⟩
      have m1:(0:Int)<(m:Int)+1:=by omega
      have hwm:IntKind.i64.wrap (m:Int)=(m:Int):=by rw [IntKind.wrap_i64];omega
      have m2:(m:Int)<(m:Int)+1:=by omega
      have m3:(0:Int)<=(m:Int):=by omega
      obtain ⟨y,hy⟩:∃ y,r.r[m]?=some y:=⟨r.r[m]'(by rw [HLN.out];omega),List.getElem?_eq_getElem _⟩
      obtain ⟨xb,xo,rfl,cy⟩:=vj (H7.out.2.2.below J7.out) hy
      have HY:Hid (r.r=r.r.take m++[y]/\y<n/\r.r[m]?=some y):=by
       refine ⟨?_,(HNN.out.sy r (List.mem_of_getElem? HRI.out.1) y (List.mem_of_getElem? hy)).1,hy⟩
       have h1:r.r.take (m+1)=r.r:=List.take_of_length_le (by rw [HLN.out];omega)
       rw [List.take_add_one,hy] at h1
       exact h1.symm
      clear hy
      by_cases hyt:S.tk<y
      ·have hyt':(S.tk:Int)<(y:Int):=by omega
       have CD:Hid (∀ V:World,Below w3.heap.size w3 V->V.cell? ⟨b2,0,none⟩=some (.int .i64 (x:Int))/\V.cell? ⟨b2,1,none⟩=some (.slice (some ⟨xb,xo,none⟩) (m+1) xc)/\V.cell? ⟨b1,0,none⟩=some (.int .i64 (S.tk:Int))/\V.cell? ⟨xb,xo+m,none⟩=some (.int .i64 (y:Int))):=fun V hV=>by
        obtain ⟨e0,e1,e2⟩:=CC.out V (qd J7.out hV)
        obtain ⟨b',o',e3,e4⟩:=vj (H7.out.2.2.below (qd J7.out hV)) HY.out.2.2
        cases e3
        exact ⟨e0,e1,e2,e4⟩
       have HFX:Hid (∀ V:World,Below w3.heap.size w3 V->Calls Tryz.prog 21 #[.pointer (some ⟨fb,0,none⟩),.int .i64 (x:Int)] V fun e W'=>Told V W' (S.tk+1) (FolP S x) e):=fun V hV=>HFO.out x HRI.out.2.2.1 HRI.out.2.2.2 V (qd J7.out hV)
       have HFY:Hid (∀ V:World,Below w3.heap.size w3 V->Calls Tryz.prog 21 #[.pointer (some ⟨fb,0,none⟩),.int .i64 (y:Int)] V fun e W'=>Told V W' (S.tk+1) (FolP S y) e):=fun V hV=>HFO.out y hyt HY.out.2.1 V (qd J7.out hV)
       have HIN:Hid (∀ t,t<S.tk+1->FolP S x t->(t:Int)≠(-1:Int)->FolP S y t):=fun t _ h _=>qsw (by omega) HRI.out.1 HRI.out.2.1 HY.out.1 hyt h
       have HW3:Hid (Below V6.heap.size V6 w3):=qd H7.out.1 J7.out
       go_upto_region 15 with fail
       clear c0 c1 c2 cy HQ HFO CC
       obtain ⟨c0,c1,c2,cy⟩:=CD.out _ (qk w3)
       go_cut [80] (fun s80 wd=>s80=.bool false/\Hid (Below w3.heap.size w3 wd))
       case first =>
        go_region_held (fun w'=>w'.cell? ⟨b2,0,none⟩=some (.int .i64 (x:Int))/\w'.cell? ⟨b2,1,none⟩=some (.slice (some ⟨xb,xo,none⟩) (m+1) xc)/\w'.cell? ⟨b1,0,none⟩=some (.int .i64 (S.tk:Int))/\w'.cell? ⟨xb,xo+m,none⟩=some (.int .i64 (y:Int))) (first | exact CD.out _ HBA.out | exact CD.out _ HBB.out | exact CD.out _ (qk _)) (first
         | (go_at_call 21;refine (HFX.out _ (qk _)).mono ?_;clear HFX;rintro e VA ⟨lA,pA,qA,rfl,hlA,hrA,hbA⟩;have HBA:Hid (Below w3.heap.size w3 VA):=qd (qk _) hbA)
         | (go_at_call 21;refine (HFY.out _ HBA.out).mono ?_;rintro e VB ⟨lB,pB,qB,rfl,hlB,hrB,hbB⟩;have HBB:Hid (Below w3.heap.size w3 VB):=qd HBA.out hbB)
         | (go_at_call 18;refine (by first | exact qhv (by omega) hlA hlB (Row.of_own hrA) ((Row.of_own hrB).below hbA) HIN.out | exact qhv (by omega) hlA hlB ((Row.of_own hrA).below hbB) (Row.of_own hrB) HIN.out:Calls Tryz.prog 18 #[.slice pA lA.length qA,.slice pB lB.length qB,.int .i64 (-1:Int)] _ fun e w'=>e=.returned (.bool true)/\w'=_).mono ?_;rintro e VC ⟨rfl,rfl⟩))
        all_goals (go_wp2_with fail;go_meet;exact ⟨rfl,by first | exact HBB | exact HBA⟩)
       case rest =>
        obtain ⟨rfl,J8⟩:=hcut
        have HF:Hid (Below V6.heap.size V6 wc):=qd HW3.out J8.out
        go_wp2_with fail
        go_roundg (S.rs.length - (i+1))
        case measure=>omega
        case rel=>exact ⟨i+1,by simp,by omega,by omega,Nat.le_refl _,HF⟩
      ·have hyt':¬ (S.tk:Int)<(y:Int):=by omega
       go_upto_region 15 with fail
       go_quiet (fail)
       go_wp2_with fail
       go_roundg (S.rs.length - (i+1))
       case measure=>omega
       case rel=>exact ⟨i+1,by simp,by omega,by omega,Nat.le_refl _,HQ.out _⟩
   ·have hlt':¬ (i:Int)<(S.rs.length:Int):=by omega
    have HW3:Hid (Below V6.heap.size V6 wr):=J
    have CD:Hid (∀ V:World,Below wr.heap.size wr V->V.cell? ⟨b1,2,none⟩=some (.int .i64 (S.st:Int))/\V.cell? ⟨b1,0,none⟩=some (.int .i64 (S.tk:Int))):=fun V hV=>by
     have g1:=qf (qd HW3.out hV) H6.out.2.2.1
     exact ⟨by rw [qe g1];rfl,by rw [qe g1];rfl⟩
    have HFX:Hid (∀ V:World,Below wr.heap.size wr V->Calls Tryz.prog 21 #[.pointer (some ⟨fb,0,none⟩),.int .i64 (S.st:Int)] V fun e W'=>Told V W' (S.tk+1) (FolP S S.st) e):=fun V hV=>qdx V _ fb n p E S WL (H6.out.1.below (qd HW3.out hV)) S.st (by have:=HNN.out.wf.st;have:=HNN.out.nn;omega) HNN.out.wf.st.1
    obtain ⟨-,-,-,-,-,-,-,c7⟩:=sbox hbx
    go_upto_region 17 with fail
    clear c7 hbx J
    obtain ⟨c0,c1⟩:=CD.out _ (qk wr)
    go_region_held (fun w'=>w'.cell? ⟨b1,2,none⟩=some (.int .i64 (S.st:Int))/\w'.cell? ⟨b1,0,none⟩=some (.int .i64 (S.tk:Int))) (first | exact CD.out _ HBA.out | exact CD.out _ (qk _)) (first
     | (go_at_call 21;refine (HFX.out _ (qk _)).mono ?_;rintro e VA ⟨lA,pA,qA,rfl,hlA,hrA,hbA⟩;have HBA:Hid (Below wr.heap.size wr VA):=qd (qk _) hbA)
     | (go_at_call 22;refine (qjf lA S.tk true pA lA.length qA VA (Row.of_own hrA) rfl (Nat.le_trans (qo6 hlA) (by omega)) ⟨fun _=>(qmh hlA S.tk).2 ⟨by omega,FolP.start⟩,fun _=>rfl⟩).mono ?_;rintro e VC ⟨rfl,rfl⟩))
    have HF:Hid (Below w.heap.size w VC):=H6.out.2.1.trans ((qd HW3.out HBA.out).mono H6.out.2.1.size)
    go_wp2_with fail
    go_ret
    exact ⟨rfl,HF.out⟩
 ·have h0':(k == 0)=false:=by simp [h0]
  go_wp2_with fail
  go_ret
  exact ⟨rfl,H4.out.1⟩
end Go.Proofs.YtngclmglmhiljaaGreatDoor.Laws
namespace Go.Proofs.YtngclmglmhiljaaGreatDoor.Laws
open Go.ChangeShapes Go.WideShapes Go.ChangeAt Go.RowKit
open Go.ChangeMaps (open_string shut_string)

theorem lifted (os : Os) (started : os.Started) (H : Type) (enc : TypeId × Value -> H) :
    ReturnsInHanded {} Tryz.checked os 5 .any (fun w args => (Rows.firstLawsSpec.pre enc Tryz.prog Tryz.f5 [] false w args /\ laidMetH Tryz.prog qg3 w) /\ sizedMet enc Tryz.prog Tryz.f5 (OpenSpec.ofChange Rows.firstLawsSpec) false w args) (Rows.firstLawsSpec.post enc Tryz.prog Tryz.f5 false true false false) := by
  refine returnsInHanded_of_change_and (C := Tryz.checked) (X := fun w _ => laidMetH Tryz.prog qg3 w) (fun _ _ _ hh h => h.of_heap hh) own started (by kernel_rfl) Tryz.func5
    (ChangeSpec.witness_shaped (enc := enc) (C := Tryz.checked) (os := os) (X := fun w _ => laidMetH Tryz.prog qg3 w) false (World.doorLaid Tryz.prog 136 os) #[.agg #[.slice none 0 0, .string ⟨#[]⟩, .int .i64 0, .slice none 0 0]] 8 rfl (World.shaped_of_RefB (by kernel_rfl) (by kernel_rfl)) (by kernel_rfl) (by kernel_rfl) (by kernel_rfl) (qqv os _)) ?_
  intro W base args ds gs before hval0 hW _ _ hL _
  have hval : ∀ (j : Nat) t v, Tryz.f5.params[j]? = some t -> args[j]? = some v -> Value.okWide Tryz.prog W .any base t v := hval0
  have hW' := hW
  obtain ⟨p, q, hA0, hV, rfl, _, _⟩ := hW
  have hA : DataW.TrodAll enc Tryz.prog W 0 (fun _ => true) true Tryz.f5.params.toList args.toList ds p := hA0
  rw [Tryz.params5] at hA hval
  obtain ⟨v0, vs0, d0, ds0, p0, q0, _, rfl, rfl, h0, r0⟩ := trodAll_cons hA
  obtain ⟨rfl, rfl, rfl⟩ := trodAll_nil r0
  obtain rfl : args = #[v0] := by cases args; simp_all
  obtain ⟨rfl, rfl⟩ := trodVars_none hV
  have k0 := h0
  have lt0 : ∀ x ∈ p0, x.block < W.heap.size := by obtain ⟨m, hm⟩ := k0; exact DataW.trod_lt m _ _ _ hm
  obtain ⟨H0, G0, rfl, raw0⟩ := qo4 (hval 0 25 v0 rfl rfl) h0
  clear hA0 hval0
  simp only [List.append_nil] at hW'
  refine (walk H0 G0 W (qlu hL) raw0 ).mono fun e W' ⟨he, bel⟩ => ?_
  subst he
  exact ⟨_, rfl, _, _, _, [], _, [], hW', trodAll_mk1 (shut_bool Tryz.underlying4 _), (trodAll_cons_mk (Below.trod qo7 (by kernel_rfl) (of_decide_eq_true (by kernel_rfl)) k0 bel lt0) trodAll_mk0), rfl, bel.frame _, fun h => by cases h⟩

theorem over : Rows.firstLawsRow.holds Tryz.pinned (OpenSpec.ofChange Rows.firstLawsSpec) :=
  OpenClaim.holds_of_wide 5 Tryz.f5 rfl rfl rfl rfl rfl rfl rfl ⟨rfl, rfl, rfl, rfl, rfl⟩ rfl rfl rfl rfl rfl (by kernel_rfl) Tryz.func5 (by kernel_rfl)
    (of_decide_eq_true (by kernel_rfl)) (by unfold Func.isWrapper; first | (rw [if_pos (by decide +kernel)]; kernel_rfl) | (rw [if_neg (by decide +kernel)]; exact ⟨rfl, rfl⟩))
    (fun os started H enc _ => lifted os started H enc)

theorem card : Claim7.holds Tryz.pinned (.plain (OpenSpec.ofChange Rows.firstLawsSpec)) Rows.firstLawsCard :=
  Claim7.holds_tied_plain_at .later [] [.data, .data, .data, .sentinel, .sentinel] true (true, "452abb9618eebf26fc9e01cab527c591e73f20c162a4812a8340780f19967501") true
    over (fun _ h => by cases h) (by kernel_rfl) (fun _ h => by cases h) firstLaws_row_tie rfl ⟨rfl, rfl⟩ (by kernel_rfl) rfl
    (fun f fn hf hfn => by
      obtain rfl : f = 5 := Option.some.inj ((show Tryz.prog.funcNamed "donatus/donatuslaw8.FirstLaws" = some 5 by kernel_rfl).symm.trans hf) |>.symm
      obtain rfl : fn = Tryz.f5 := (Option.some.inj (Tryz.func5.symm.trans hfn)).symm
      exact ⟨by kernel_rfl, fun j t ht => by
        rw [Tryz.params5] at ht
        have hm : t ∈ ([25] : List TypeId) := by simpa using Array.mem_of_getElem? ht
        have hall : (([25] : List TypeId).all fun u => !Tryz.prog.wantsStandIn u) = true := by kernel_rfl
        exact (show Tryz.prog.wantsStandIn t = false by simpa using List.all_eq_true.1 hall t hm)⟩)
    (by kernel_rfl)

end Go.Proofs.YtngclmglmhiljaaGreatDoor.Laws
namespace Go.Proofs.YtngclmglmhiljaaGreatDoor
theorem firstLaws_holds : Rows.FirstLawsCardSaid := Laws.card
#print axioms firstLaws_holds
end Go.Proofs.YtngclmglmhiljaaGreatDoor
