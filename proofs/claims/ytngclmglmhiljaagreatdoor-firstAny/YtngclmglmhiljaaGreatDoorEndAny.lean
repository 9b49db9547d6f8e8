/-
  FirstAny: of a grammar that means something and any symbols, Of has the end just if all of them can be empty: the call returns true and leaves all that was there as it was; its conditions are those of the row.
-/
import Derived.ChangeSlices
import Derived.Deep.Matrix
import Derived.Test.YtngclmglmhiljaaGreatDoorCards
import Derived.Test.YtngclmglmhiljaaGreatDoorTie
import Derived.OpenShut
import Derived.ShutString
import Derived.ChangeOld
import Derived.Below
import Derived.SevenTiedAt
import Derived.Test.YtngclmglmhiljaaGreatDoorOthAny
set_option maxHeartbeats 16000000
set_option maxRecDepth 100000
namespace Go.Proofs.YtngclmglmhiljaaGreatDoor
open Go.RowKit
structure RawI (w:World) (ao:Option Addr) (n cap:Nat) (zs:List Int):Prop where
 le:n<=cap/\cap<=9223372036854775807
 get:∀ i,i<n->∃ b o,ao=some ⟨b,o,none⟩/\w.cell? ⟨b,o+i,none⟩=some (.int .i64 (zs.getD i 0))
theorem RawI.below {w w':World} {ao:Option Addr} {n cap:Nat} {zs:List Int} (h:RawI w ao n cap zs) (hb:Below w.heap.size w w'):RawI w' ao n cap zs :=
 ⟨h.le,fun i hi=>by obtain ⟨b,o,e,c⟩:=h.get i hi;exact ⟨b,o,e,qj hb c⟩⟩
theorem qrx (z:Int) (m:Int) (hm:0<m):-m<z.tmod m/\z.tmod m<m:=by
 refine ⟨?_,Int.tmod_lt_of_pos z hm⟩
 have h:=Int.tmod_lt_of_pos (-z) hm
 rw [Int.neg_tmod] at h
 omega
theorem qjf (l:List Nat) (x:Nat) (b:Bool) (a:Option Addr) (n k:Nat) (w:World) (h:Row w 1 a n k (natC l)) (hn:l.length=n) (hn2:n<=1000) (hb:b=true↔x∈l) :
  Calls Tryz.prog 22 #[.slice a n k,.int .i64 (x:Int)] w fun e w'=>e=.returned (.bool b)/\w'=w:=by
 have HE:Hid (l.length=n):=hn
 have HR:Hid (Row w 1 a n k (natC l)):=h
 have HB:Hid (b=true↔x∈l):=hb
 have q1:=ze h
 clear hn h hb
 go_enter Tryz.func22,Tryz.ntmps22
 go_wp2_with fail
 go_loopg [5] n (fun kx s5 wr=>∃ i:Nat,s5=.int .i64 i/\i<=n/\n - i<=kx/\wr=w/\Hid (∀ z∈l.take i,z≠x))
 case atStart=>exact ⟨0,rfl,Nat.zero_le _,by omega,rfl,(fun z hz=>(by cases hz):∀ z∈l.take 0,z≠x)⟩
 case round =>
  obtain ⟨i,rfl,hi,hg,rfl,J⟩:=hrel
  by_cases hlt:i<n
  ·have hlt':(i:Int)<(n:Int):=by omega
   obtain ⟨z,hz⟩:∃ z,l[i]?=some z:=⟨l[i]'(by rw [HE.out];exact hlt),List.getElem?_eq_getElem _⟩
   obtain ⟨b1,o1,rfl,c1⟩:=vj HR.out hz
   have HZ:Hid (l[i]?=some z):=hz
   clear hz
   by_cases hzx:z=x
   ·subst hzx
    have hbt:b=true:=HB.out.2 (List.mem_of_getElem? HZ.out)
    subst hbt
    have hd:((z:Int) == (z:Int))=true:=beq_self_eq_true _
    go_wp2_with fail
    go_ret
    exact ⟨rfl,rfl⟩
   ·have hd:((z:Int) == (x:Int))=false:=by
     rw [beq_eq_false_iff_ne]
     omega
    have HF:Hid (∀ y∈l.take (i+1),y≠x):=by
     intro y hy
     rw [List.take_add_one,List.mem_append] at hy
     rcases hy with hy | hy
     ·exact J.out y hy
     ·rw [HZ.out,Option.toList_some,List.mem_singleton] at hy
      subst hy
      exact hzx
    clear J
    go_wp2_with fail
    go_roundg (n - (i+1))
    case measure=>omega
    case rel=>exact ⟨i+1,by simp,by omega,Nat.le_refl _,rfl,HF⟩
  ·have hlt':¬ (i:Int)<(n:Int):=by omega
   have hbf:b=false:=by
    cases hb:b
    ·rfl
    ·have hm:=HB.out.1 hb
     have:i=n:=by omega
     subst this
     have:=J.out
     rw [<-HE.out,List.take_length] at this
     exact absurd rfl (this x hm)
   subst hbf
   go_wp2_with fail
   go_ret
   exact ⟨rfl,rfl⟩
theorem qsy {H:Type} {enc:TypeId × Value->H} {W:World} {ao:Option Addr} {n cap:Nat} {d:DataW H} {ps:List MemPlace} (h:DataW.Trod enc Tryz.prog W 0 (fun _=>true) true 26 (.slice ao n cap) d ps):∃ zs,RawI W ao n cap zs:=by
 obtain ⟨fuel,hf⟩:=h
 rcases ChangeShapes.open_ints Tryz.underlying26 Tryz.underlying3 (by kernel_rfl) hf with ⟨hcs,_⟩ | ⟨x,l,c,zs,hcs,_,hl,hm,hz,_,hcell,hwz⟩
 ·simp [Value.cells] at hcs
  obtain ⟨rfl,rfl,rfl⟩:=hcs
  exact ⟨[],⟨Nat.le_refl _,by omega⟩,fun i hi=>absurd hi (Nat.not_lt_zero _)⟩
 ·simp [Value.cells] at hcs
  obtain ⟨rfl,rfl,rfl⟩:=hcs
  have hz':zs.length=cap:=by simpa using hz
  refine ⟨zs,⟨hl,by unfold maxLen at hm;omega⟩,fun i hi=>?_⟩
  have hc:=hcell i (by omega)
  have h0:=hcell 0 (by omega)
  obtain ⟨b,off,spot⟩:=x
  have hspot:spot=none:=by simpa [Addr.add] using World.cell?_spot h0
  subst hspot
  rw [Addr.add_lit] at hc
  exact ⟨b,off,rfl,hc⟩
theorem qsx {G:Gm} {k:Int} (hk:OfR G k) (h0:k=0):∃ n,NSp (spK G k) n:=by
 unfold spK
 rw [if_pos h0]
 subst h0
 exact ⟨_,qqy hk⟩
theorem qmh {m:Nat} {Q:Nat->Prop} {l:List Nat} (h:IsL m Q l) (t:Nat):t∈l↔t<m/\Q t:=by
 obtain ⟨b,hb,rfl⟩:=h
 rw [List.mem_filter,List.mem_range]
 constructor
 ·rintro ⟨h1,h2⟩
  exact ⟨h1,(hb t h1).1 h2⟩
 ·rintro ⟨h1,h2⟩
  exact ⟨h1,(hb t h1).2 h2⟩
theorem qo6 {m:Nat} {Q:Nat->Prop} {l:List Nat} (h:IsL m Q l):l.length<=m:=by
 obtain ⟨b,hb,rfl⟩:=h
 have:=List.length_filter_le b (List.range m)
 rw [List.length_range] at this
 exact this
end Go.Proofs.YtngclmglmhiljaaGreatDoor
namespace Go.Proofs.YtngclmglmhiljaaGreatDoor.Any
open Go.RowKit
structure AQ (V wr:World) (S:Sp) (n i:Nat) (sa:Option Addr) (sc:Nat) (em:Bool) (zs:List Nat):Prop where
 bel:Below V.heap.size V wr
 own:wr.ownsRow V.heap.size 3 1 (.slice sa i sc) i (natC zs)
 len:zs.length=i
 rng:∀ z∈zs,S.tk<z/\z<n
 emp:em=true↔∀ z∈zs,Nul S z
theorem AQ.step {V wr W':World} {S:Sp} {n i:Nat} {sa:Option Addr} {sc:Nat} {em:Bool} {zs:List Nat} (h:AQ V wr S n i sa sc em zs) (hb:Below wr.heap.size wr W'):AQ V W' S n i sa sc em zs:=⟨qd h.bel hb,zw h.own hb,h.len,h.rng,h.emp⟩
theorem AQ.more {V wr W':World} {S:Sp} {n i:Nat} {sa sa':Option Addr} {sc sc':Nat} {em e':Bool} {zs:List Nat} (h:AQ V wr S n i sa sc em zs) (y:Nat) (hb:Below V.heap.size wr W') (ho:W'.ownsRow V.heap.size 3 1 (.slice sa' (i+1) sc') (i+1) (natC (zs++[y]))) (hy:S.tk<y/\y<n) (he:e'=true↔em=true/\Nul S y):AQ V W' S n (i+1) sa' sc' e' (zs++[y]):=by
 refine ⟨h.bel.trans hb,ho,by rw [List.length_append,h.len];rfl,fun z hz=>?_,?_⟩
 ·rcases List.mem_append.1 hz with hz | hz
  ·exact h.rng z hz
  ·rw [List.mem_singleton] at hz
   subst hz
   exact hy
 ·rw [he,h.emp]
  constructor
  ·rintro ⟨h1,h2⟩ z hz
   rcases List.mem_append.1 hz with hz | hz
   ·exact h1 z hz
   ·rw [List.mem_singleton] at hz
    subst hz
    exact h2
  ·exact fun h1=>⟨fun z hz=>h1 z (List.mem_append_left _ hz),h1 y (by simp)⟩
theorem walk (h:Hd) (G:Gm) (la:Option Addr) (ln lc:Nat) (L:List Int) (w:World) (hp:Pow w) (hG:RawG w h G) (hL:RawI w la ln lc L):Calls Tryz.prog 8 #[gv h G,.slice la ln lc] w fun e w'=>e=.returned (.bool true)/\Below w.heap.size w w':=by
 obtain ⟨ta,tc,ra,rc⟩:=h
 obtain ⟨k,hk⟩:=qsj (cutG G)
 have HK:Hid (OfR (cutG G) k):=hk
 have HL:Hid (RawI w la ln lc L):=hL
 obtain ⟨hle,hmx⟩:=hL.le
 clear hL
 have hv:Below w.heap.size w (w.alloc (.cells #[.slice ta G.ts.length tc,.string G.s,.int .i64 G.e,.slice ra G.rs.length rc] 25)):=qb _ _
 have hx:(w.alloc (.cells #[.slice ta G.ts.length tc,.string G.s,.int .i64 G.e,.slice ra G.rs.length rc] 25)).heap[w.heap.size]?=some (.cells #[.slice ta G.ts.length tc,.string G.s,.int .i64 G.e,.slice ra G.rs.length rc] 25 (0,0)):=heap_alloc_new _ _
 have HR:Hid (RawG (w.alloc (.cells #[.slice ta G.ts.length tc,.string G.s,.int .i64 G.e,.slice ra G.rs.length rc] 25)) ⟨ta,tc,ra,rc⟩ G/\Pow (w.alloc (.cells #[.slice ta G.ts.length tc,.string G.s,.int .i64 G.e,.slice ra G.rs.length rc] 25))):=⟨hG.below hv,hp.below hv⟩
 clear hG hp hk
 unfold gv
 simp only
 obtain ⟨tn,HTN⟩:∃ tn,Hid (G.ts.length=tn):=⟨_,rfl⟩
 obtain ⟨rn,HRN⟩:∃ rn,Hid (G.rs.length=rn):=⟨_,rfl⟩
 rw [HTN.out] at hv hx HR ⊢
 rw [HRN.out] at hv hx HR ⊢
 go_enter Tryz.func8,Tryz.ntmps8
 go_upto_region 1 with fail
 generalize w.alloc (.cells #[.slice ta tn tc,.string G.s,.int .i64 G.e,.slice ra rn rc] 25)=W1 at hv hx HR ⊢
 obtain ⟨nb,HNB⟩:∃ nb,Hid (nb=w.heap.size):=⟨_,rfl⟩
 rw [<-HNB.out] at hx ⊢
 have H1:Hid (Below w.heap.size w W1/\W1.heap[nb]?=some (.cells #[.slice ta tn tc,.string G.s,.int .i64 G.e,.slice ra rn rc] 25 (0,0))):=⟨hv,hx⟩
 clear hv hx
 go_wp2_with fail
 refine (qku W1 HR.out.2).mono ?_
 rintro e V1 ⟨rfl,hB⟩
 have HV1:Hid (RawG V1 ⟨ta,tc,ra,rc⟩ G/\Below w.heap.size w V1/\V1.heap[nb]?=some (.cells #[.slice ta tn tc,.string G.s,.int .i64 G.e,.slice ra rn rc] 25 (0,0))):=⟨HR.out.1.below hB,qd H1.out.1 hB,qf hB H1.out.2⟩
 clear hB HR H1
 obtain ⟨p0,p1,p2,p3⟩:=box4 HV1.out.2.2
 have HCUT:Hid (Calls Tryz.prog 11 #[.agg #[.slice ta tn tc,.string G.s,.int .i64 G.e,.slice ra rn rc]] V1 fun e w'=>∃ h' qs,e=.returned (gv h' (cutG G))/\OwnG w' V1.heap.size h' (cutG G) qs/\Below V1.heap.size V1 w'):=by
  have:=qnk G ⟨ta,tc,ra,rc⟩ V1 HV1.out.1
  unfold gv at this
  simp only at this
  rw [HTN.out,HRN.out] at this
  exact this
 go_wp2_with fail
 refine HCUT.out.mono ?_
 rintro e V2 ⟨⟨ta2,tc2,ra2,rc2⟩,qs,rfl,ho,hB⟩
 have H2:Hid (IsG V2 ⟨ta2,tc2,ra2,rc2⟩ (cutG G)/\Below w.heap.size w V2):=⟨ho.isG (qo5 G),qd HV1.out.2.1 hB⟩
 clear ho hB HCUT HV1 p0 p1 p2 p3
 have HRF:Hid (Calls Tryz.prog 10 #[gv ⟨ta2,tc2,ra2,rc2⟩ (cutG G)] V2 fun e w'=>∃ h',e=.returned (.tuple #[.agg (sC h' (spK (cutG G) k)),.int .i64 k])/\IsSp w' h' (spK (cutG G) k)/\Below V2.heap.size V2 w'):=qmg (cutG G) ⟨ta2,tc2,ra2,rc2⟩ V2 k H2.out.1 HK.out
 have HNS:Hid (k=0->∃ n,NSp (spK (cutG G) k) n):=qsx HK.out
 generalize spK (cutG G) k=S at HRF HNS
 generalize gv ⟨ta2,tc2,ra2,rc2⟩ (cutG G)=gg at HRF ⊢
 go_wp2_with fail
 refine HRF.out.mono ?_
 rintro e V4 ⟨h1,rfl,hs1,hB4⟩
 have hv:Below V4.heap.size V4 (V4.alloc (.cells (sC h1 S) 31)):=qb _ _
 have H4:Hid (Below w.heap.size w (V4.alloc (.cells (sC h1 S) 31))/\IsSp (V4.alloc (.cells (sC h1 S) 31)) h1 S/\(V4.alloc (.cells (sC h1 S) 31)).heap[V4.heap.size]?=some (.cells (sC h1 S) 31 (0,0))):=⟨qd (qd H2.out.2 hB4) hv,hs1.below hv,heap_alloc_new _ _⟩
 clear hs1 hB4 hv H2 HRF
 unfold sC
 go_upto_region 5 with fail
 have e4:V4.alloc (.cells #[.int .i64 (S.tk:Int),.int .i64 (S.nt:Int),.int .i64 (S.st:Int),.int .i64 S.ex,.slice h1.na S.nm.length h1.nc,.slice h1.la S.lv.length h1.lc,.slice h1.aa S.az.length h1.ac,.slice h1.ra S.rs.length h1.rc] 31)=V4.alloc (.cells (sC h1 S) 31):=rfl
 rw [e4]
 generalize V4.alloc (.cells (sC h1 S) 31)=V5 at H4 ⊢
 generalize V4.heap.size=b1 at H4 ⊢
 clear e4
 by_cases h0:k=0
 ·obtain ⟨n,hns⟩:=HNS.out h0
  have HN:Hid (Calls Tryz.prog 17 #[.agg #[.int .i64 (S.tk:Int),.int .i64 (S.nt:Int),.int .i64 (S.st:Int),.int .i64 S.ex,.slice h1.na S.nm.length h1.nc,.slice h1.la S.lv.length h1.lc,.slice h1.aa S.az.length h1.ac,.slice h1.ra S.rs.length h1.rc]] V5 fun e w'=>∃ fb p E WL,e=.returned (.pointer (some ⟨fb,0,none⟩))/\FS w' V5.heap.size fb p n S E WL/\Below V5.heap.size V5 w'):=qgs V5 h1 S n hns H4.out.2.1
  have HNN:Hid (NSp S n):=hns
  subst h0
  clear hns
  obtain ⟨c0,c1,c2,c3,c4,c5,c6,c7⟩:=sbox H4.out.2.2
  go_wp2_with fail
  refine HN.out.mono ?_
  rintro e V6 ⟨fb,p,E,WL,rfl,hfs,hB6⟩
  clear c0 c1 c2 c3 c4 c5 c6 c7 HN
  have H6:Hid (FS V6 V5.heap.size fb p n S E WL/\Below w.heap.size w V6/\V6.heap[b1]?=some (.cells (sC h1 S) 31 (0,0))/\IsSp V6 h1 S):=⟨hfs,qd H4.out.1 hB6,qf hB6 H4.out.2.2,H4.out.2.1.below hB6⟩
  clear hfs hB6 H4 HNS HK HTN HRN HNB
  have hnn:=HNN.out.nn
  have htk:=HNN.out.wf.tk
  have hnt:=HNN.out.wf.nt
  have hst:=HNN.out.wf.st
  have hnt0:(0:Int)<(S.nt:Int):=by omega
  have hnt0':((S.nt:Int) == 0)=false:=by rw [beq_eq_false_iff_ne];omega
  have hAQ0:Hid (∃ zs,AQ V6 V6 S n 0 none 0 true zs):=⟨[],Below.refl _ _,World.ownsRow_nil _ _ _ _,rfl,fun z hz=>(by cases hz),⟨fun _ z hz=>(by cases hz),fun _=>rfl⟩⟩
  go_upto_block 0 with fail
  go_cut [9,10] (fun s9 s10 wd=>∃ (i:Nat) (sa:Option Addr) (sc:Nat) (em:Bool),s9=.slice sa i sc/\s10=.bool em/\i<=4/\Hid (∃ zs,AQ V6 wd S n i sa sc em zs))
  case first =>
   go_wp2_with fail
   go_loopg [9,10,11] 4 (fun kx s9 s10 s11 wr=>∃ (i:Nat) (sa:Option Addr) (sc:Nat) (em:Bool),s9=.slice sa i sc/\s10=.bool em/\s11=.int .i64 i/\i<=4/\4 - i<=kx/\Hid (∃ zs,AQ V6 wr S n i sa sc em zs))
   case atStart=>exact ⟨0,none,0,true,rfl,rfl,rfl,by omega,by omega,hAQ0⟩
   case round =>
    obtain ⟨i,sa,sc,em,rfl,rfl,rfl,hi,hg,J⟩:=hrel
    clear hAQ0
    by_cases hlt:i<ln
    ·have hlt':(i:Int)<(ln:Int):=by omega
     by_cases h4:i<4
     ·have h4':(i:Int)<4:=by omega
      obtain ⟨zs,hq⟩:=J.out
      obtain ⟨b,o,rfl,cz⟩:=(HL.out.below (qd H6.out.2.1 hq.bel)).get i hlt
      generalize L.getD i 0=z at cz
      have hr:=qrx z (S.nt:Int) hnt0
      obtain ⟨r,hr0⟩:∃ r,z.tmod (S.nt:Int)=r:=⟨_,rfl⟩
      rw [hr0] at hr
      have hr2:=qrx (r+(S.nt:Int)) (S.nt:Int) hnt0
      have hr3:0<=(r+(S.nt:Int)).tmod (S.nt:Int):=Int.tmod_nonneg _ (by omega)
      obtain ⟨q,hq0⟩:∃ q:Nat,(r+(S.nt:Int)).tmod (S.nt:Int)=(q:Int):=⟨((r+(S.nt:Int)).tmod (S.nt:Int)).toNat,by omega⟩
      have hq6:q<S.nt:=by omega
      obtain ⟨hr4,hr5⟩:=hr
      clear hr2 hr3
      have hbx:=qf hq.bel H6.out.2.2.1
      obtain ⟨c0,c1,-⟩:=sbox hbx
      have HQ:Hid (∀ q,AQ V6 (wr.drewN q) S n i sa sc em zs):=fun q=>hq.step (yh (Below.refl _ _) q)
      have hlen:=z8 hq.own
      clear J hq hbx
      have mx:=qay
      go_upto_region 13 with fail
      go_quiet (fail)
      have HD:=HQ.out nq
      generalize wr.drewN nq=w2 at HD ⊢
      clear c0 c1 cz mx HQ
      have HE:Hid (AQ V6 w2 S n i sa sc em zs):=HD
      obtain ⟨g,c,W',hr,ho,-,hb⟩:=ql7 HD.own HD.bel.size (by omega) (S.tk+1+q)
      have ey:((S.tk+1+q:Nat):Int)=(S.tk:Int)+1+(q:Int):=by omega
      rw [ey] at hr
      have hb6:=HD.bel.trans hb
      have hF:=H6.out.1.below hb6
      have hxn:S.tk+1+q<n:=by omega
      have HEM:Hid (Calls Tryz.prog 23 #[.pointer (some ⟨fb,0,none⟩),.int .i64 ((S.tk:Int)+1+(q:Int))] W' fun e w'=>e=.returned (.bool (isF E (S.tk+1+q)))/\w'=W'):=by
       have:=qc0 W' fb p.eb n n (S.tk+1+q) (isF E (S.tk+1+q)) hF.fm.c1 hxn (hF.fm.ce hxn)
       rw [ey] at this
       exact this
      have HNU:Hid (isF E (S.tk+1+q)=true↔Nul S (S.tk+1+q)):=H6.out.1.emp _
      generalize isF E (S.tk+1+q)=ee at HEM HNU
      have c0:w2.cell? ⟨b1,0,none⟩=some (.int .i64 (S.tk:Int)):=by rw [qe (qf HD.bel H6.out.2.2.1)];rfl
      have c0':W'.cell? ⟨b1,0,none⟩=some (.int .i64 (S.tk:Int)):=by rw [qe (qf hb6 H6.out.2.2.1)];rfl
      have HMR:Hid (∀ e',(e'=true↔em=true/\ee=true)->∃ zs,AQ V6 W' S n (i+1) (some ⟨g,0,none⟩) c e' zs):=fun e' he=>⟨_,HE.out.more (S.tk+1+q) hb ho ⟨by omega,hxn⟩ (by rw [he,HNU.out])⟩
      clear ho hb hb6 hF HD HE
      cases em
      ·have HF:Hid (∃ zs,AQ V6 W' S n (i+1) (some ⟨g,0,none⟩) c false zs):=HMR.out _ (by simp)
       clear HMR HNU
       go_wp2_with (at_builtin;refine Lib.wpList_append_run _ rfl _ _ _ _ rfl _ _ rfl rfl _ _ hr ?_)
       go_roundg (4 - (i+1))
       case measure=>omega
       case rel=>exact ⟨i+1,_,_,false,rfl,rfl,by simp,by omega,Nat.le_refl _,HF⟩
      ·have HF:Hid (∃ zs,AQ V6 W' S n (i+1) (some ⟨g,0,none⟩) c ee zs):=HMR.out _ (by simp)
       clear HMR HNU
       go_wp2_with (at_builtin;refine Lib.wpList_append_run _ rfl _ _ _ _ rfl _ _ rfl rfl _ _ hr ?_)
       refine HEM.out.mono ?_
       rintro e w3 ⟨rfl,rfl⟩
       go_wp2_with fail
       go_roundg (4 - (i+1))
       case measure=>omega
       case rel=>exact ⟨i+1,_,_,ee,rfl,rfl,by simp,by omega,Nat.le_refl _,HF⟩
     ·have h4':¬ (i:Int)<4:=by omega
      go_wp2_with fail
      go_meet
      exact ⟨i,sa,sc,em,rfl,rfl,hi,J⟩
    ·have hlt':¬ (i:Int)<(ln:Int):=by omega
     go_wp2_with fail
     go_meet
     exact ⟨i,sa,sc,em,rfl,rfl,hi,J⟩
  case rest =>
   obtain ⟨i,sa,sc,em,rfl,rfl,hi,J⟩:=hcut
   obtain ⟨w8,hw8⟩:∃ w8,w8=wc:=⟨_,rfl⟩
   subst wc
   clear hAQ0
   obtain ⟨zs,hq⟩:=J.out
   have hb8:Below w.heap.size w w8:=H6.out.2.1.trans (hq.bel.mono H6.out.2.1.size)
   have hbx:=qf hq.bel H6.out.2.2.1
   have c0:w8.cell? ⟨b1,0,none⟩=some (.int .i64 (S.tk:Int)):=by rw [qe hbx];rfl
   have HOF:Hid (Calls Tryz.prog 19 #[.pointer (some ⟨fb,0,none⟩),.slice sa i sc,.int .i64 (S.tk:Int)] w8 fun e W'=>Told w8 W' (S.tk+1) (fun t=>FstL S zs t\/((∀ z∈zs,Nul S z)/\(t:Int)=(S.tk:Int))) e):=qck w8 _ fb n p E S WL (H6.out.1.below hq.bel) zs sa i sc hq.len (by omega) (Row.of_own hq.own) (fun z hz=>⟨(hq.rng z hz).2,by have:=(hq.rng z hz).1;omega⟩) S.tk (.inr ⟨by omega,by omega⟩)
   have HB8:Hid (Below w.heap.size w w8/\w8.heap[b1]?=some (.cells (sC h1 S) 31 (0,0))/\(em=true↔∀ z∈zs,Nul S z)):=⟨hb8,hbx,hq.emp⟩
   clear J hq hb8 hbx
   go_wp2_with fail
   refine HOF.out.mono ?_
   rintro e w9 ⟨l,lp,lq,rfl,hl,hro,hb9⟩
   clear c0
   have c0:w9.cell? ⟨b1,0,none⟩=some (.int .i64 (S.tk:Int)):=by rw [qe (qf hb9 HB8.out.2.1)];rfl
   have hln:=qo6 hl
   have hmm:em=true↔S.tk∈l:=by
    rw [qmh hl,HB8.out.2.2]
    constructor
    ·exact fun h=>⟨by omega,.inr ⟨h,rfl⟩⟩
    ·rintro ⟨-,h | h⟩
     ·exact absurd h.lt (Nat.lt_irrefl _)
     ·exact h.1
   have HAS:Hid (Calls Tryz.prog 22 #[.slice lp l.length lq,.int .i64 (S.tk:Int)] w9 fun e w'=>e=.returned (.bool em)/\w'=w9):=qjf l S.tk em lp l.length lq w9 (Row.of_own hro) rfl (by omega) hmm
   have HF:Hid (Below w.heap.size w w9):=qd HB8.out.1 hb9
   clear hl hro hb9 hln hmm HOF
   go_wp2_with fail
   refine HAS.out.mono ?_
   rintro e w10 ⟨rfl,rfl⟩
   cases em <;> (go_wp2_with fail;go_ret;exact ⟨rfl,HF.out⟩)
 ·have h0':(k == 0)=false:=by simp [h0]
  go_wp2_with fail
  go_ret
  exact ⟨rfl,H4.out.1⟩
end Go.Proofs.YtngclmglmhiljaaGreatDoor.Any
namespace Go.Proofs.YtngclmglmhiljaaGreatDoor.Any
open Go.ChangeShapes Go.WideShapes Go.ChangeAt Go.RowKit
open Go.ChangeMaps (open_string shut_string)

theorem lifted (os : Os) (started : os.Started) (H : Type) (enc : TypeId × Value -> H) :
    ReturnsInHanded {} Tryz.checked os 8 .any (fun w args => (Rows.firstAnySpec.pre enc Tryz.prog Tryz.f8 [] false w args /\ laidMetH Tryz.prog qg3 w) /\ sizedMet enc Tryz.prog Tryz.f8 (OpenSpec.ofChange Rows.firstAnySpec) false w args) (Rows.firstAnySpec.post enc Tryz.prog Tryz.f8 false true false false) := by
  refine returnsInHanded_of_change_and (C := Tryz.checked) (X := fun w _ => laidMetH Tryz.prog qg3 w) (fun _ _ _ hh h => h.of_heap hh) own started (by kernel_rfl) Tryz.func8
    (ChangeSpec.witness_shaped (enc := enc) (C := Tryz.checked) (os := os) (X := fun w _ => laidMetH Tryz.prog qg3 w) false (World.doorLaid Tryz.prog 136 os) #[.agg #[.slice none 0 0, .string ⟨#[]⟩, .int .i64 0, .slice none 0 0], .slice none 0 0] 8 rfl (World.shaped_of_RefB (by kernel_rfl) (by kernel_rfl)) (by kernel_rfl) (by kernel_rfl) (by kernel_rfl) (qqv os _)) ?_
  intro W base args ds gs before hval0 hW _ _ hL _
  have hval : ∀ (j : Nat) t v, Tryz.f8.params[j]? = some t -> args[j]? = some v -> Value.okWide Tryz.prog W .any base t v := hval0
  have hW' := hW
  obtain ⟨p, q, hA0, hV, rfl, _, _⟩ := hW
  have hA : DataW.TrodAll enc Tryz.prog W 0 (fun _ => true) true Tryz.f8.params.toList args.toList ds p := hA0
  rw [Tryz.params8] at hA hval
  obtain ⟨v0, vs0, d0, ds0, p0, q0, _, rfl, rfl, h0, r0⟩ := trodAll_cons hA
  obtain ⟨v1, vs1, d1, ds1, p1, q1, rfl, rfl, rfl, h1, r1⟩ := trodAll_cons r0
  obtain ⟨rfl, rfl, rfl⟩ := trodAll_nil r1
  obtain rfl : args = #[v0, v1] := by cases args; simp_all
  obtain ⟨rfl, rfl⟩ := trodVars_none hV
  have k0 := h0
  have lt0 : ∀ x ∈ p0, x.block < W.heap.size := by obtain ⟨m, hm⟩ := k0; exact DataW.trod_lt m _ _ _ hm
  obtain ⟨H0, G0, rfl, raw0⟩ := qo4 (hval 0 25 v0 rfl rfl) h0
  have k1 := h1
  have lt1 : ∀ x ∈ p1, x.block < W.heap.size := by obtain ⟨m, hm⟩ := k1; exact DataW.trod_lt m _ _ _ hm
  obtain ⟨A1, n1, c1, rfl⟩ := okWide_slice Tryz.underlying26 (hval 1 26 v1 rfl rfl)
  obtain ⟨z1, raw1⟩ := qsy h1
  clear hA0 hval0
  simp only [List.append_nil] at hW'
  refine (walk H0 G0 A1 n1 c1 z1 W (qlu hL) raw0 raw1 ).mono fun e W' ⟨he, bel⟩ => ?_
  subst he
  exact ⟨_, rfl, _, _, _, [], _, [], hW', trodAll_mk1 (shut_bool Tryz.underlying4 _), (trodAll_cons_mk (Below.trod qo7 (by kernel_rfl) (of_decide_eq_true (by kernel_rfl)) k0 bel lt0) (trodAll_cons_mk (Below.trod qo7 (by kernel_rfl) (of_decide_eq_true (by kernel_rfl)) k1 bel lt1) trodAll_mk0)), rfl, bel.frame _, fun h => by cases h⟩

theorem over : Rows.firstAnyRow.holds Tryz.pinned (OpenSpec.ofChange Rows.firstAnySpec) :=
  OpenClaim.holds_of_wide 8 Tryz.f8 rfl rfl rfl rfl rfl rfl rfl ⟨rfl, rfl, rfl, rfl, rfl⟩ rfl rfl rfl rfl rfl (by kernel_rfl) Tryz.func8 (by kernel_rfl)
    (of_decide_eq_true (by kernel_rfl)) (by unfold Func.isWrapper; first | (rw [if_pos (by decide +kernel)]; kernel_rfl) | (rw [if_neg (by decide +kernel)]; exact ⟨rfl, rfl⟩))
    (fun os started H enc _ => lifted os started H enc)

theorem card : Claim7.holds Tryz.pinned (.plain (OpenSpec.ofChange Rows.firstAnySpec)) Rows.firstAnyCard :=
  Claim7.holds_tied_plain_at .later [] [.data, .data, .data, .sentinel, .sentinel] true (true, "452abb9618eebf26fc9e01cab527c591e73f20c162a4812a8340780f19967501") true
    over (fun _ h => by cases h) (by kernel_rfl) (fun _ h => by cases h) firstAny_row_tie rfl ⟨rfl, rfl⟩ (by kernel_rfl) rfl
    (fun f fn hf hfn => by
      obtain rfl : f = 8 := Option.some.inj ((show Tryz.prog.funcNamed "donatus/donatuslaw8.FirstAny" = some 8 by kernel_rfl).symm.trans hf) |>.symm
      obtain rfl : fn = Tryz.f8 := (Option.some.inj (Tryz.func8.symm.trans hfn)).symm
      exact ⟨by kernel_rfl, fun j t ht => by
        rw [Tryz.params8] at ht
        have hm : t ∈ ([25, 26] : List TypeId) := by simpa using Array.mem_of_getElem? ht
        have hall : (([25, 26] : List TypeId).all fun u => !Tryz.prog.wantsStandIn u) = true := by kernel_rfl
        exact (show Tryz.prog.wantsStandIn t = false by simpa using List.all_eq_true.1 hall t hm)⟩)
    (by kernel_rfl)

end Go.Proofs.YtngclmglmhiljaaGreatDoor.Any
namespace Go.Proofs.YtngclmglmhiljaaGreatDoor
theorem firstAny_holds : Rows.FirstAnyCardSaid := Any.card
#print axioms firstAny_holds
end Go.Proofs.YtngclmglmhiljaaGreatDoor
