/- Texts that the proofs of the First statements stand on, part Own10. -/
import Derived.Test.YtngclmglmhiljaaGreatDoorOwn09
set_option maxHeartbeats 16000000
set_option maxRecDepth 100000
namespace Go.Proofs.YtngclmglmhiljaaGreatDoor
open Go.RowKit
def zC:Array Value:=sC ⟨none,0,none,0,none,0,none,0⟩ ⟨0,0,0,0,[],[],[],[]⟩
structure SX (w W:World) (gb rb sb:Nat) (h:Hd) (G:Gm) (h':SHd) (S:Sp):Prop where
 sp:SB w W sb h' S []
 gx:W.heap[gb]?=some (.cells #[.slice h.ta G.ts.length h.tc,.string G.s,.int .i64 G.e,.slice h.ra G.rs.length h.rc] 25 (0,0))
 rx:W.heap[rb]?=some (.cells zC 31 (0,0))
 ne:rb≠sb
theorem SX.step {w W W':World} {gb rb sb:Nat} {h:Hd} {G:Gm} {h':SHd} {S:Sp} (s:SX w W gb rb sb h G h' S) (hb:Below W.heap.size W W'):SX w W' gb rb sb h G h' S :=
 ⟨s.sp.step hb,qf hb s.gx,qf hb s.rx,s.ne⟩
theorem qfu {W W':World} {sb b T E base n c:Nat} {ao:Option Addr} {cs:List Value} {d:Array Value} (hk:Kept (fun k=>k=sb\/blk ao=some k) W W') (ho:W.ownsRow base E 1 (.slice ao n c) n cs) (hb:W.heap[b]?=some (.cells d T (0,0))) (hT:T≠E) (hn:b≠sb):W'.heap[b]?=some (.cells d T (0,0)):=by
 rw [hk.block b (Array.getElem?_eq_some_iff.1 hb).1 (fun e=>?_)]
 ·exact hb
 ·rcases e with e | e
  ·exact hn e
  ·exact qr ⟨_,hb⟩ (qw ho e).2.2 hT rfl
theorem SX.addNm {w W:World} {gb rb sb:Nat} {h:Hd} {G:Gm} {h':SHd} {S:Sp} (s:SX w W gb rb sb h G h' S) (x:ByteArray) (hn:S.nm.length<10000) :
  ∃ g c W',(Builtin.append_ #[28,28] 28 #[.slice h'.na S.nm.length h'.nc,.slice (some ⟨W.heap.size,0,none⟩) 1 1]).run Tryz.prog (W.alloc (.cells #[.string x] 9))=.ok (.slice (some ⟨g,0,none⟩) (S.nm.length+1) c) W' /\
   W'.cell? ⟨sb,4,none⟩=some (.slice h'.na S.nm.length h'.nc)/\W'.frozen? ⟨sb,4,none⟩=false/\SX w (W'.setCell ⟨sb,4,none⟩ (.slice (some ⟨g,0,none⟩) (S.nm.length+1) c)) gb rb sb h G ⟨some ⟨g,0,none⟩,c,h'.la,h'.lc,h'.aa,h'.ac,h'.ra,h'.rc⟩ ⟨S.tk,S.nt,S.st,S.ex,S.nm++[x],S.lv,S.az,S.rs⟩ /\
   ∀ (b T:Nat) (d:Array Value),W.heap[b]?=some (.cells d T (0,0))->T≠9->b≠sb->(W'.setCell ⟨sb,4,none⟩ (.slice (some ⟨g,0,none⟩) (S.nm.length+1) c)).heap[b]?=some (.cells d T (0,0)):=by
 obtain ⟨g,c,W',hr,hbox,h2,hk⟩:=s.sp.addNm x hn
 have far:=fun b T d hb hT hn=>qfu (b:=b) (T:=T) (d:=d) hk s.sp.nm hb hT hn
 exact ⟨g,c,W',hr,by rw [qe hbox];rfl,qi hbox 4,⟨h2,far gb 25 _ s.gx (by decide) (qr ⟨_,s.gx⟩ ⟨_,s.sp.box⟩ (by decide)),far rb 31 _ s.rx (by decide) s.ne,s.ne⟩,far⟩
theorem SX.addLv {w W:World} {gb rb sb:Nat} {h:Hd} {G:Gm} {h':SHd} {S:Sp} (s:SX w W gb rb sb h G h' S) (x:Int) (hn:S.lv.length<10000) :
  ∃ g c W',(Builtin.append_ #[26,26] 26 #[.slice h'.la S.lv.length h'.lc,.slice (some ⟨W.heap.size,0,none⟩) 1 1]).run Tryz.prog (W.alloc (.cells #[.int .i64 x] 3))=.ok (.slice (some ⟨g,0,none⟩) (S.lv.length+1) c) W' /\
   W'.cell? ⟨sb,5,none⟩=some (.slice h'.la S.lv.length h'.lc)/\W'.frozen? ⟨sb,5,none⟩=false/\SX w (W'.setCell ⟨sb,5,none⟩ (.slice (some ⟨g,0,none⟩) (S.lv.length+1) c)) gb rb sb h G ⟨h'.na,h'.nc,some ⟨g,0,none⟩,c,h'.aa,h'.ac,h'.ra,h'.rc⟩ ⟨S.tk,S.nt,S.st,S.ex,S.nm,S.lv++[x],S.az,S.rs⟩ /\
   ∀ (b T:Nat) (d:Array Value),W.heap[b]?=some (.cells d T (0,0))->T≠3->b≠sb->(W'.setCell ⟨sb,5,none⟩ (.slice (some ⟨g,0,none⟩) (S.lv.length+1) c)).heap[b]?=some (.cells d T (0,0)):=by
 obtain ⟨g,c,W',hr,hbox,h2,hk⟩:=s.sp.addLv x hn
 have far:=fun b T d hb hT hn=>qfu (b:=b) (T:=T) (d:=d) hk s.sp.lv hb hT hn
 exact ⟨g,c,W',hr,by rw [qe hbox];rfl,qi hbox 5,⟨h2,far gb 25 _ s.gx (by decide) (qr ⟨_,s.gx⟩ ⟨_,s.sp.box⟩ (by decide)),far rb 31 _ s.rx (by decide) s.ne,s.ne⟩,far⟩
theorem SX.addAz {w W:World} {gb rb sb:Nat} {h:Hd} {G:Gm} {h':SHd} {S:Sp} (s:SX w W gb rb sb h G h' S) (x:Int) (hn:S.az.length<10000) :
  ∃ g c W',(Builtin.append_ #[26,26] 26 #[.slice h'.aa S.az.length h'.ac,.slice (some ⟨W.heap.size,0,none⟩) 1 1]).run Tryz.prog (W.alloc (.cells #[.int .i64 x] 3))=.ok (.slice (some ⟨g,0,none⟩) (S.az.length+1) c) W' /\
   W'.cell? ⟨sb,6,none⟩=some (.slice h'.aa S.az.length h'.ac)/\W'.frozen? ⟨sb,6,none⟩=false/\SX w (W'.setCell ⟨sb,6,none⟩ (.slice (some ⟨g,0,none⟩) (S.az.length+1) c)) gb rb sb h G ⟨h'.na,h'.nc,h'.la,h'.lc,some ⟨g,0,none⟩,c,h'.ra,h'.rc⟩ ⟨S.tk,S.nt,S.st,S.ex,S.nm,S.lv,S.az++[x],S.rs⟩:=by
 obtain ⟨g,c,W',hr,hbox,h2,hk⟩:=s.sp.addAz x hn
 have far:=fun b T d hb hT hn=>qfu (b:=b) (T:=T) (d:=d) hk s.sp.az hb hT hn
 exact ⟨g,c,W',hr,by rw [qe hbox];rfl,qi hbox 6,⟨h2,far gb 25 _ s.gx (by decide) (qr ⟨_,s.gx⟩ ⟨_,s.sp.box⟩ (by decide)),far rb 31 _ s.rx (by decide) s.ne,s.ne⟩⟩
def syT (G:Gm) (k:Nat):Sp:=⟨G.ts.length,0,0,G.e,(G.ts.take k).map (·.n),(G.ts.take k).map (·.l),(G.ts.take k).map (·.a),[]⟩
def syR (G:Gm) (k:Nat):Sp:=⟨G.ts.length,0,0,G.e,tkG G++e0 :: lfs (G.rs.take k),G.ts.map (·.l),G.ts.map (·.a),[]⟩
def set8 (W:World) (b:Nat) (v0 v1 v2 v3 v4 v5 v6 v7:Value):World:=(((((((W.setCell ⟨b,0,none⟩ v0).setCell ⟨b,1,none⟩ v1).setCell ⟨b,2,none⟩ v2).setCell ⟨b,3,none⟩ v3).setCell ⟨b,4,none⟩ v4).setCell ⟨b,5,none⟩ v5).setCell ⟨b,6,none⟩ v6).setCell ⟨b,7,none⟩ v7
theorem xw {W:World} {b j base E k n:Nat} {v u:Value} {cs:List Value} (h:W.ownsRow base E k v n cs) (hl:Loc W b 31) (hE:E≠31):(W.setCell ⟨b,j,none⟩ u).ownsRow base E k v n cs :=
 qh h (fun _ hi=>Below.heap_setCell _ _ _ _ (qr (qx h hi) hl hE))
theorem qb8 {W:World} {b base E k n:Nat} {v v0 v1 v2 v3 v4 v5 v6 v7:Value} {cs:List Value} (h:W.ownsRow base E k v n cs) (hl:Loc W b 31) (hE:E≠31):(set8 W b v0 v1 v2 v3 v4 v5 v6 v7).ownsRow base E k v n cs:=by
 have s1:=hl.set b 0 v0
 have s2:=s1.set b 1 v1
 have s3:=s2.set b 2 v2
 have s4:=s3.set b 3 v3
 have s5:=s4.set b 4 v4
 have s6:=s5.set b 5 v5
 have s7:=s6.set b 6 v6
 exact xw (xw (xw (xw (xw (xw (xw (xw h hl hE) s1 hE) s2 hE) s3 hE) s4 hE) s5 hE) s6 hE) s7 hE
theorem jd {w W:World} {b:Nat} {v0 v1 v2 v3 v4 v5 v6 v7:Value} (h:Below w.heap.size w W) (hb:w.heap.size<=b):Below w.heap.size w (set8 W b v0 v1 v2 v3 v4 v5 v6 v7) :=
 (((((((h.setCell (p:=⟨b,0,none⟩) hb _).setCell (p:=⟨b,1,none⟩) hb _).setCell (p:=⟨b,2,none⟩) hb _).setCell (p:=⟨b,3,none⟩) hb _).setCell (p:=⟨b,4,none⟩) hb _).setCell (p:=⟨b,5,none⟩) hb _).setCell (p:=⟨b,6,none⟩) hb _).setCell (p:=⟨b,7,none⟩) hb _
structure OwnSp (W:World) (base:Nat) (h:SHd) (S:Sp) (qs:List (SR × Option Addr × Nat)):Prop where
 nm:W.ownsRow base 9 1 (.slice h.na S.nm.length h.nc) S.nm.length (strC S.nm)
 lv:W.ownsRow base 3 1 (.slice h.la S.lv.length h.lc) S.lv.length (intC S.lv)
 az:W.ownsRow base 3 1 (.slice h.aa S.az.length h.ac) S.az.length (intC S.az)
 rl:W.ownsRow base 47 4 (.slice h.ra S.rs.length h.rc) S.rs.length (srC qs)
 map:qs.map (·.1)=S.rs
 row:∀ q∈qs,W.ownsRow base 3 1 (.slice q.2.1 q.1.r.length q.2.2) q.1.r.length (natC q.1.r)
theorem OwnSp.isSp {W:World} {base:Nat} {h:SHd} {S:Sp} {qs:List (SR × Option Addr × Nat)} (s:OwnSp W base h S qs):IsSp W h S :=
 ⟨Row.of_own s.nm,Row.of_own s.lv,Row.of_own s.az,⟨qs,s.map,Row.of_own s.rl,fun q hq=>Row.of_own (s.row q hq)⟩⟩
theorem OwnSp.step {W W':World} {base:Nat} {h:SHd} {S:Sp} {qs:List (SR × Option Addr × Nat)} (s:OwnSp W base h S qs) (hb:Below W.heap.size W W'):OwnSp W' base h S qs :=
 ⟨zw s.nm hb,zw s.lv hb,zw s.az hb,zw s.rl hb,s.map,fun q hq=>zw (s.row q hq) hb⟩
theorem OwnSp.far {W:World} {base b j:Nat} {u:Value} {h:SHd} {S:Sp} {qs:List (SR × Option Addr × Nat)} (s:OwnSp W base h S qs) (hl:Loc W b 31):OwnSp (W.setCell ⟨b,j,none⟩ u) base h S qs :=
 ⟨xw s.nm hl (by decide),xw s.lv hl (by decide),xw s.az hl (by decide),xw s.rl hl (by decide),s.map,fun q hq=>xw (s.row q hq) hl (by decide)⟩
theorem OwnSp.set8 {W:World} {base b:Nat} {h:SHd} {S:Sp} {qs:List (SR × Option Addr × Nat)} {v0 v1 v2 v3 v4 v5 v6 v7:Value} (s:OwnSp W base h S qs) (hl:Loc W b 31):OwnSp (set8 W b v0 v1 v2 v3 v4 v5 v6 v7) base h S qs :=
 ⟨qb8 s.nm hl (by decide),qb8 s.lv hl (by decide),qb8 s.az hl (by decide),qb8 s.rl hl (by decide),s.map,fun q hq=>qb8 (s.row q hq) hl (by decide)⟩
theorem SB.own {w W:World} {sb:Nat} {h:SHd} {S:Sp} {qs:List (SR × Option Addr × Nat)} (s:SB w W sb h S qs):OwnSp W w.heap.size h S qs:=⟨s.nm,s.lv,s.az,s.rl,s.map,s.row⟩
theorem qj7 (G:Gm) (k:Nat):(syR G k).nm.length=G.ts.length+1+(lfs (G.rs.take k)).length:=by
 unfold syR tkG
 simp
 omega
theorem qqb (G:Gm) (k:Nat):(syR G k).nm.drop ((syR G k).tk+1)=lfs (G.rs.take k):=by
 show (tkG G++e0 :: lfs (G.rs.take k)).drop (G.ts.length+1)=_
 have e:tkG G++e0 :: lfs (G.rs.take k)=(tkG G++[e0])++lfs (G.rs.take k):=by simp
 rw [e,List.drop_append_of_le_length (by unfold tkG;simp),List.drop_of_length_le (by unfold tkG;simp)]
 rfl
theorem qcs (rs:List Ru) (k:Nat):(lfs (rs.take k)).length<=k:=by
 have h1:=j9 (rs.take k)
 have h2:(rs.take k).length<=k:=by simp;omega
 omega
theorem qsd {G:Gm} {k:Nat} {r:Ru} (hr:G.rs[k]?=some r) (h:r.l∈lfs (G.rs.take k)):syR G (k+1)=syR G k:=by
 unfold syR
 rw [qdi hr]
 unfold lfS
 rw [if_pos (jz.2 h)]
theorem qrn {G:Gm} {k:Nat} {r:Ru} (hr:G.rs[k]?=some r) (h:r.l ∉ lfs (G.rs.take k)):syR G (k+1)=⟨(syR G k).tk,(syR G k).nt,(syR G k).st,(syR G k).ex,(syR G k).nm++[r.l],(syR G k).lv,(syR G k).az,(syR G k).rs⟩:=by
 unfold syR
 rw [qdi hr]
 unfold lfS
 rw [if_neg (fun e=>h (jz.1 e))]
 simp
theorem SB.lefts {w W:World} {sb:Nat} {h:SHd} {G:Gm} {k:Nat} (s:SB w W sb h (syR G k) []):Calls Tryz.prog 93 #[.agg (sC h (syR G k))] W fun e w'=>∃ ao c,e=.returned (.slice ao (lfs (G.rs.take k)).length c)/\Row w' 1 ao (lfs (G.rs.take k)).length c (strC (lfs (G.rs.take k)))/\Below W.heap.size W w':=by
 have e1:(syR G k).nm.length - ((syR G k).tk+1)=(lfs (G.rs.take k)).length:=by
  rw [qj7]
  show _ - (G.ts.length+1)=_
  omega
 have:=qek h (syR G k) W s.isSp.nm (by rw [qj7];show G.ts.length+1<=_;omega)
 rw [e1,qqb] at this
 exact this
theorem qgp (G:Gm) (h:Hd) (w:World) (hG:IsG w h G):Calls Tryz.prog 81 #[gv h G] w fun e w'=>∃ h',e=.returned (sv h' (sy0 G))/\OwnSp w' w.heap.size h' (sy0 G) []/\Below w.heap.size w w':=by
 have hs1:G.ts.length<=100:=hG.small.nt
 have hs2:G.rs.length<=200:=hG.small.nr
 have hm1:G.ts.length<=h.tc/\h.tc<=9223372036854775807:=by have h1:=hG.tok.le;have h2:=hG.tok.max;unfold maxLen at h2;omega
 have hm2:=kj hG.rul
 have HG:Hid (IsG w h G):=hG
 clear hG
 obtain ⟨ta,tc,ra,rc⟩:=h
 simp only at hm1 hm2
 have hB1:Below w.heap.size w ((w.alloc (.cells #[.slice ta G.ts.length tc,.string G.s,.int .i64 G.e,.slice ra G.rs.length rc] 25)).alloc (.cells zC 31)):=qd (qb _ _) (qb _ _)
 have hg1:((w.alloc (.cells #[.slice ta G.ts.length tc,.string G.s,.int .i64 G.e,.slice ra G.rs.length rc] 25)).alloc (.cells zC 31)).heap[w.heap.size]?=some (.cells #[.slice ta G.ts.length tc,.string G.s,.int .i64 G.e,.slice ra G.rs.length rc] 25 (0,0)):=qf (qb _ _) (heap_alloc_new _ _)
 have hg2:((w.alloc (.cells #[.slice ta G.ts.length tc,.string G.s,.int .i64 G.e,.slice ra G.rs.length rc] 25)).alloc (.cells zC 31)).heap[w.heap.size+1]?=some (.cells zC 31 (0,0)):=by
  have:=heap_alloc_new (w.alloc (.cells #[.slice ta G.ts.length tc,.string G.s,.int .i64 G.e,.slice ra G.rs.length rc] 25)) (.cells zC 31)
  rwa [qt] at this
 unfold gv
 simp only
 obtain ⟨tn,HTN⟩:∃ tn,Hid (G.ts.length=tn):=⟨_,rfl⟩
 obtain ⟨rn,HRN⟩:∃ rn,Hid (G.rs.length=rn):=⟨_,rfl⟩
 rw [HTN.out] at hs1 hm1 hB1 hg1 hg2 ⊢
 rw [HRN.out] at hs2 hm2 hB1 hg1 hg2 ⊢
 go_enter Tryz.func81,Tryz.ntmps81
 go_upto_region 1 with fail
 have ez:(w.alloc (.cells #[.slice ta tn tc,.string G.s,.int .i64 G.e,.slice ra rn rc] 25)).alloc (.cells #[.int .i64 0,.int .i64 0,.int .i64 0,.int .i64 0,.slice none 0 0,.slice none 0 0,.slice none 0 0,.slice none 0 0] 31)=(w.alloc (.cells #[.slice ta tn tc,.string G.s,.int .i64 G.e,.slice ra rn rc] 25)).alloc (.cells zC 31):=rfl
 rw [ez]
 generalize (w.alloc (.cells #[.slice ta tn tc,.string G.s,.int .i64 G.e,.slice ra rn rc] 25)).alloc (.cells zC 31)=W1 at hB1 hg1 hg2 ⊢
 obtain ⟨gb,HGB⟩:∃ gb,Hid (gb=w.heap.size):=⟨_,rfl⟩
 rw [<-HGB.out] at hg1 hg2 ⊢
 have p0:W1.cell? ⟨gb,0,none⟩=some (.slice ta tn tc):=by rw [qe hg1];rfl
 have p2:W1.cell? ⟨gb,2,none⟩=some (.int .i64 G.e):=by rw [qe hg1];rfl
 have hv:Below W1.heap.size W1 (W1.alloc (.cells #[.int .i64 (tn:Int),.int .i64 0,.int .i64 0,.int .i64 G.e,.slice none 0 0,.slice none 0 0,.slice none 0 0,.slice none 0 0] 31)):=qb _ _
 have H2:Hid (∃ h',SX w (W1.alloc (.cells #[.int .i64 (tn:Int),.int .i64 0,.int .i64 0,.int .i64 G.e,.slice none 0 0,.slice none 0 0,.slice none 0 0,.slice none 0 0] 31)) gb (gb+1) W1.heap.size ⟨ta,tc,ra,rc⟩ G h' (syT G 0)):=by
  refine ⟨⟨none,0,none,0,none,0,none,0⟩,SB.first ?_ rfl rfl rfl rfl (qd hB1 hv) hB1.size,?_,qf hv hg2,?_⟩
  ·unfold syT sC
   rw [HTN.out]
   exact heap_alloc_new _ _
  ·rw [HTN.out,HRN.out]
   exact qf hv hg1
  ·have:=(Array.getElem?_eq_some_iff.1 hg2).1
   omega
 have HRB:Hid (w.heap.size<=gb+1):=by rw [HGB.out];exact Nat.le_succ _
 clear ez hB1 hg1 hg2 hv HGB
 go_upto_region 2 with fail
 generalize W1.alloc (.cells #[.int .i64 (tn:Int),.int .i64 0,.int .i64 0,.int .i64 G.e,.slice none 0 0,.slice none 0 0,.slice none 0 0,.slice none 0 0] 31)=W2 at H2 ⊢
 generalize W1.heap.size=sb at H2 ⊢
 generalize gb+1=rb at H2 HRB ⊢
 clear p0 p2
 have p0:W2.cell? ⟨gb,0,none⟩=some (.slice ta tn tc):=by
  obtain ⟨h',s⟩:=H2.out
  rw [qe s.gx,HTN.out];rfl
 go_upto_block 0 with fail
 clear p0
 go_cut [17] (fun s17 wd=>Hid (∃ h',SX w wd gb rb sb ⟨ta,tc,ra,rc⟩ G h' (syT G tn)))
 case first =>
  go_wp2_with fail
  go_loopg [17] tn (fun kx s17 wr=>∃ k:Nat,s17=.int .i64 k/\k<=tn/\tn - k<=kx/\Hid (∃ h',SX w wr gb rb sb ⟨ta,tc,ra,rc⟩ G h' (syT G k)))
  case atStart=>exact ⟨0,rfl,Nat.zero_le _,by omega,H2⟩
  case round =>
   clear H2
   obtain ⟨k,rfl,hk,hg,J⟩:=hrel
   by_cases hlt:k<tn
   ·have hlt':(k:Int)<(tn:Int):=by omega
    obtain ⟨h',s⟩:=J.out
    obtain ⟨t,ht⟩:∃ t,G.ts[k]?=some t:=⟨G.ts[k]'(by rw [HTN.out];exact hlt),List.getElem?_eq_getElem _⟩
    obtain ⟨b,o,hta,d0,d1,d2⟩:=ja (HG.out.tok.below s.sp.bel) ht
    simp only at hta
    subst hta
    have HT:Hid (G.ts[k]?=some t):=ht
    have hv:Below wr.heap.size wr (wr.alloc (.cells #[.string t.n,.int .i64 t.l,.int .i64 t.a] 58)):=qb _ _
    have HV:Hid (SX w (wr.alloc (.cells #[.string t.n,.int .i64 t.l,.int .i64 t.a] 58)) gb rb sb ⟨some ⟨b,o,none⟩,tc,ra,rc⟩ G h' (syT G k)/\(wr.alloc (.cells #[.string t.n,.int .i64 t.l,.int .i64 t.a] 58)).heap[wr.heap.size]?=some (.cells #[.string t.n,.int .i64 t.l,.int .i64 t.a] 58 (0,0))):=⟨s.step hv,heap_alloc_new _ _⟩
    clear s J ht hv
    go_upto_region 5 with fail
    obtain ⟨b5,HB5⟩:∃ b5,Hid (b5=wr.heap.size):=⟨_,rfl⟩
    rw [<-HB5.out] at HV ⊢
    generalize wr.alloc (.cells #[.string t.n,.int .i64 t.l,.int .i64 t.a] 58)=V at HV ⊢
    clear HB5 d0 d1 d2
    have e1:(syT G k).nm.length=k:=by unfold syT;simp;have:=HTN.out;omega
    have e2:(syT G k).lv.length=k:=by unfold syT;simp;have:=HTN.out;omega
    have e3:(syT G k).az.length=k:=by unfold syT;simp;have:=HTN.out;omega
    obtain ⟨g1,c1,V1,hr1,x1,f1,s1,k1⟩:=HV.out.1.addNm t.n (by omega)
    have hne:b5≠sb:=qr ⟨_,HV.out.2⟩ ⟨_,HV.out.1.sp.box⟩ (by decide)
    have B1:=k1 b5 58 _ HV.out.2 (by decide) hne
    have y0:V.cell? ⟨b5,0,none⟩=some (.string t.n):=by rw [qe HV.out.2];rfl
    obtain ⟨-,-,-,-,y1,-,-,-⟩:=sbox HV.out.1.sp.box
    rw [e1] at hr1 x1 s1 B1 y1
    have HS1:Hid (SX w (V1.setCell ⟨sb,4,none⟩ (.slice (some ⟨g1,0,none⟩) (k+1) c1)) gb rb sb ⟨some ⟨b,o,none⟩,tc,ra,rc⟩ G ⟨some ⟨g1,0,none⟩,c1,h'.la,h'.lc,h'.aa,h'.ac,h'.ra,h'.rc⟩ ⟨(syT G k).tk,(syT G k).nt,(syT G k).st,(syT G k).ex,(syT G k).nm++[t.n],(syT G k).lv,(syT G k).az,(syT G k).rs⟩/\(V1.setCell ⟨sb,4,none⟩ (.slice (some ⟨g1,0,none⟩) (k+1) c1)).heap[b5]?=some (.cells #[.string t.n,.int .i64 t.l,.int .i64 t.a] 58 (0,0))):=⟨s1,B1⟩
    clear s1 B1 k1 HV
    go_upto_region 6 with (at_builtin;refine Lib.wpList_append_run _ rfl _ _ _ _ rfl _ _ rfl rfl _ _ hr1 ?_)
    clear hr1 x1 f1 y0 y1
    generalize V1.setCell ⟨sb,4,none⟩ (.slice (some ⟨g1,0,none⟩) (k+1) c1)=Q1 at HS1 ⊢
    obtain ⟨g2,c2,V2,hr2,x2,f2,s2,k2⟩:=HS1.out.1.addLv t.l (by show (syT G k).lv.length<10000;omega)
    have B2:=k2 b5 58 _ HS1.out.2 (by decide) hne
    have y0:Q1.cell? ⟨b5,1,none⟩=some (.int .i64 t.l):=by rw [qe HS1.out.2];rfl
    obtain ⟨-,-,-,-,-,y1,-,-⟩:=sbox HS1.out.1.sp.box
    simp only at hr2 x2 s2 B2 y1
    rw [e2] at hr2 x2 s2 B2 y1
    have HS2:Hid (SX w (V2.setCell ⟨sb,5,none⟩ (.slice (some ⟨g2,0,none⟩) (k+1) c2)) gb rb sb ⟨some ⟨b,o,none⟩,tc,ra,rc⟩ G ⟨some ⟨g1,0,none⟩,c1,some ⟨g2,0,none⟩,c2,h'.aa,h'.ac,h'.ra,h'.rc⟩ ⟨(syT G k).tk,(syT G k).nt,(syT G k).st,(syT G k).ex,(syT G k).nm++[t.n],(syT G k).lv++[t.l],(syT G k).az,(syT G k).rs⟩/\(V2.setCell ⟨sb,5,none⟩ (.slice (some ⟨g2,0,none⟩) (k+1) c2)).heap[b5]?=some (.cells #[.string t.n,.int .i64 t.l,.int .i64 t.a] 58 (0,0))):=⟨s2,B2⟩
    clear s2 B2 k2 HS1
    go_upto_region 7 with (at_builtin;refine Lib.wpList_append_run _ rfl _ _ _ _ rfl _ _ rfl rfl _ _ hr2 ?_)
    clear hr2 x2 f2 y0 y1
    generalize V2.setCell ⟨sb,5,none⟩ (.slice (some ⟨g2,0,none⟩) (k+1) c2)=Q2 at HS2 ⊢
    obtain ⟨g3,c3,V3,hr3,x3,f3,s3⟩:=HS2.out.1.addAz t.a (by show (syT G k).az.length<10000;omega)
    have y0:Q2.cell? ⟨b5,2,none⟩=some (.int .i64 t.a):=by rw [qe HS2.out.2];rfl
    obtain ⟨-,-,-,-,-,-,y1,-⟩:=sbox HS2.out.1.sp.box
    simp only at hr3 x3 s3 y1
    rw [e3] at hr3 x3 s3 y1
    have HF:Hid (∃ h',SX w (V3.setCell ⟨sb,6,none⟩ (.slice (some ⟨g3,0,none⟩) (k+1) c3)) gb rb sb ⟨some ⟨b,o,none⟩,tc,ra,rc⟩ G h' (syT G (k+1))):=by
     have e:syT G (k+1)=⟨(syT G k).tk,(syT G k).nt,(syT G k).st,(syT G k).ex,(syT G k).nm++[t.n],(syT G k).lv++[t.l],(syT G k).az++[t.a],(syT G k).rs⟩:=by
      unfold syT
      rw [zn HT.out]
      simp
     rw [<-e] at s3
     exact ⟨_,s3⟩
    clear s3 HS2
    go_wp2_with (at_builtin;refine Lib.wpList_append_run _ rfl _ _ _ _ rfl _ _ rfl rfl _ _ hr3 ?_)
    go_roundg (tn - (k+1))
    case measure=>omega
    case rel=>exact ⟨k+1,by simp,by omega,Nat.le_refl _,HF⟩
   ·have hlt':¬ (k:Int)<(tn:Int):=by omega
    have HF:Hid (∃ h',SX w wr gb rb sb ⟨ta,tc,ra,rc⟩ G h' (syT G tn)):=by
     have:k=tn:=by omega
     subst this
     exact J.out
    clear J
    go_wp2_with fail
    go_meet
    exact HF
 case rest =>
  obtain ⟨w8,hw8⟩:∃ w8,w8=wc:=⟨_,rfl⟩
  subst wc
  clear H2
  obtain ⟨h8,s8⟩:=hcut.out
  have e1:(syT G tn).nm.length=tn:=by unfold syT;simp;have:=HTN.out;omega
  obtain ⟨g1,c1,V1,hr1,x1,f1,s1,-⟩:=s8.addNm ⟨#[]⟩ (by omega)
  obtain ⟨-,-,-,-,y1,-,-,-⟩:=sbox s8.sp.box
  rw [e1] at hr1 x1 s1 y1
  have HS:Hid (∃ h',SX w (V1.setCell ⟨sb,4,none⟩ (.slice (some ⟨g1,0,none⟩) (tn+1) c1)) gb rb sb ⟨ta,tc,ra,rc⟩ G h' (syR G 0)):=by
   have e:syR G 0=⟨(syT G tn).tk,(syT G tn).nt,(syT G tn).st,(syT G tn).ex,(syT G tn).nm++[⟨#[]⟩],(syT G tn).lv,(syT G tn).az,(syT G tn).rs⟩:=by
    unfold syT syR tkG
    rw [show G.ts.take tn=G.ts from List.take_of_length_le (by rw [HTN.out];exact Nat.le_refl _)]
    simp [lfs,e0]
   rw [<-e] at s1
   exact ⟨_,s1⟩
  clear s1 s8 hcut
  go_upto_region 10 with (at_builtin;refine Lib.wpList_append_run _ rfl _ _ _ _ rfl _ _ rfl rfl _ _ hr1 ?_)
  clear hr1 x1 f1 y1
  generalize V1.setCell ⟨sb,4,none⟩ (.slice (some ⟨g1,0,none⟩) (tn+1) c1)=Q1 at HS ⊢
  have p3:Q1.cell? ⟨gb,3,none⟩=some (.slice ra rn rc):=by
   obtain ⟨h',s⟩:=HS.out
   rw [qe s.gx,HRN.out];rfl
  go_wp2_with fail
  clear p3
  go_loopg [51] rn (fun kx s51 wr=>∃ k:Nat,s51=.int .i64 k/\k<=rn/\rn - k<=kx/\Hid (∃ h',SX w wr gb rb sb ⟨ta,tc,ra,rc⟩ G h' (syR G k)))
  case atStart=>exact ⟨0,rfl,Nat.zero_le _,by omega,HS⟩
  case round =>
   clear HS
   obtain ⟨k,rfl,hk,hg,J⟩:=hrel
   obtain ⟨h',s⟩:=J.out
   by_cases hlt:k<rn
   ·have hlt':(k:Int)<(rn:Int):=by omega
    obtain ⟨r,hr⟩:∃ r,G.rs[k]?=some r:=⟨G.rs[k]'(by rw [HRN.out];exact hlt),List.getElem?_eq_getElem _⟩
    obtain ⟨b,o,xa,xc,hra,d0,d1,d2,-⟩:=(HG.out.rul.below s.sp.bel).at hr
    simp only at hra
    subst hra
    have HT:Hid (G.rs[k]?=some r):=hr
    have hv:Below wr.heap.size wr (wr.alloc (.cells #[.string r.l,.slice xa r.r.length xc,.string r.p] 55)):=qb _ _
    have HV:Hid (SX w (wr.alloc (.cells #[.string r.l,.slice xa r.r.length xc,.string r.p] 55)) gb rb sb ⟨ta,tc,some ⟨b,o,none⟩,rc⟩ G h' (syR G k)/\(wr.alloc (.cells #[.string r.l,.slice xa r.r.length xc,.string r.p] 55)).heap[wr.heap.size]?=some (.cells #[.string r.l,.slice xa r.r.length xc,.string r.p] 55 (0,0))):=⟨s.step hv,heap_alloc_new _ _⟩
    clear s J hr hv
    go_upto_region 13 with fail
    obtain ⟨b7,HB7⟩:∃ b7,Hid (b7=wr.heap.size):=⟨_,rfl⟩
    rw [<-HB7.out] at HV ⊢
    generalize wr.alloc (.cells #[.string r.l,.slice xa r.r.length xc,.string r.p] 55)=V at HV ⊢
    clear HB7 d0 d1 d2
    obtain ⟨bb,hbb⟩:=zr (r.l∈lfs (G.rs.take k))
    have HBB:Hid (bb=true↔r.l∈lfs (G.rs.take k)):=hbb
    clear hbb
    have q7:V.cell? ⟨b7,0,none⟩=some (.string r.l):=by rw [qe HV.out.2];rfl
    obtain ⟨q0,q1,q2,q3,q4,q5,q6,q8⟩:=sbox HV.out.1.sp.box
    obtain ⟨m,hm0⟩:∃ m,(lfs (G.rs.take k)).length=m:=⟨_,rfl⟩
    have hm9:m<=200:=by have:=qcs G.rs k;omega
    have HMM:Hid ((syR G k).nm.length=tn+1+m):=by
     show _=_
     rw [qj7,hm0,HTN.out]
    have HLE:Hid (Calls Tryz.prog 93 #[.agg (sC h' (syR G k))] V.drew fun e w'=>∃ ao c,e=.returned (.slice ao m c)/\Row w' 1 ao m c (strC (lfs (G.rs.take k)))/\Below V.heap.size V w'):=by
     have:=(HV.out.1.sp.step (qk V)).lefts
     rw [hm0] at this
     exact this.mono (fun e w' ⟨ao,c,h1,h2,h3⟩=>⟨ao,c,h1,h2,qd (qk V) h3⟩)
    have HCT:Hid (∀ (U:World) (ao:Option Addr) (c:Nat),Row U 1 ao m c (strC (lfs (G.rs.take k)))->Calls Tryz.prog 92 #[.slice ao m c,.string r.l] U fun e w'=>e=.returned (.bool bb)/\w'=U):=fun U ao c hU=>by
     have:=yu (lfs (G.rs.take k)) ao c r.l U (by rw [hm0];exact hU) (by rw [hm0];omega) bb HBB.out
     rw [hm0] at this
     exact this
    unfold sC at HLE
    clear hm0
    go_cut [51,60] from 51 to 68 (fun s51 s60 wd=>s51=.int .i64 (k:Int)/\s60=.bool (!bb)/\Hid (Below V.heap.size V wd))
    case first =>
     go_region_with (first | (go_at_call 93;refine HLE.out.mono ?_;rintro e V1 ⟨ao,c,rfl,hrow,hB⟩;have z7:=qj hB q7) | (go_at_call 92;refine (HCT.out _ _ _ hrow).mono ?_;rintro e V2 ⟨rfl,rfl⟩))
     all_goals
      have HF:Hid (Below V.heap.size V _):=hB
      clear hB hrow z7
      go_wp2_with fail
      go_meet
      exact ⟨rfl,rfl,HF⟩
    case rest =>
     obtain ⟨rfl,rfl,HB⟩:=hcut
     obtain ⟨V3,hV3⟩:∃ V3,V3=wc:=⟨_,rfl⟩
     subst wc
     clear q0 q1 q2 q3 q4 q5 q6 q8 q7 HLE HCT
     have s3:=HV.out.1.step HB.out
     have q7:V3.cell? ⟨b7,0,none⟩=some (.string r.l):=by rw [qe (qf HB.out HV.out.2)];rfl
     cases bb
     ·obtain ⟨g1,c1,V4,hr1,x1,f1,s4,-⟩:=s3.addNm r.l (by rw [HMM.out];omega)
      obtain ⟨-,-,-,-,y1,-,-,-⟩:=sbox s3.sp.box
      rw [<-qrn HT.out (fun h=>by have:=HBB.out.2 h;cases this)] at s4
      rw [HMM.out] at hr1 x1 s4 y1
      have HF:Hid (∃ h',SX w (V4.setCell ⟨sb,4,none⟩ (.slice (some ⟨g1,0,none⟩) (tn+1+m+1) c1)) gb rb sb ⟨ta,tc,some ⟨b,o,none⟩,rc⟩ G h' (syR G (k+1))):=⟨_,s4⟩
      clear s3 s4 HV HB
      generalize tn+1+m=nl at *
      go_wp2_with (at_builtin;refine Lib.wpList_append_run _ rfl _ _ _ _ rfl _ _ rfl rfl _ _ hr1 ?_)
      go_roundg (rn - (k+1))
      case measure=>omega
      case rel=>exact ⟨k+1,by simp,by omega,Nat.le_refl _,HF⟩
     ·have HF:Hid (∃ h',SX w V3 gb rb sb ⟨ta,tc,some ⟨b,o,none⟩,rc⟩ G h' (syR G (k+1))):=by
       rw [qsd HT.out (HBB.out.1 rfl)]
       exact ⟨_,s3⟩
      clear s3 HV HB q7
      go_wp2_with fail
      go_roundg (rn - (k+1))
      case measure=>omega
      case rel=>exact ⟨k+1,by simp,by omega,Nat.le_refl _,HF⟩
   ·have hlt':¬ (k:Int)<(rn:Int):=by omega
    have hkr:k=rn:=by omega
    subst hkr
    have etk:G.rs.take k=G.rs:=List.take_of_length_le (by rw [HRN.out];exact Nat.le_refl _)
    obtain ⟨q0,q1,q2,q3,q4,q5,q6,q8⟩:=sbox s.sp.box
    obtain ⟨m,hm0⟩:∃ m,(lfs (G.rs.take k)).length=m:=⟨_,rfl⟩
    have hm9:m<=200:=by have:=qcs G.rs k;omega
    have HLE:Hid (Calls Tryz.prog 93 #[.agg (sC h' (syR G k))] wr fun e w'=>∃ ao c,e=.returned (.slice ao m c)/\Row w' 1 ao m c (strC (lfs (G.rs.take k)))/\Below wr.heap.size wr w'):=by
     have:=s.sp.lefts
     rw [hm0] at this
     exact this
    unfold sC at HLE
    have HS:Hid (SX w wr gb rb sb ⟨ta,tc,ra,rc⟩ G h' (syR G k)/\(lfs G.rs).length=m/\G.rs.take k=G.rs):=⟨s,by rw [<-hm0,etk],etk⟩
    clear s J hm0 etk
    go_wp2_with fail
    refine HLE.out.mono ?_
    rintro e V1 ⟨ao,c,rfl,hrow,hB⟩
    have hmc:=ze hrow
    clear q0 q1 q2 q3 q4 q5 q6 q8 hrow HLE
    have s1:=HS.out.1.step hB
    have z1:V1.cell? ⟨sb,1,none⟩=some (.int .i64 0):=by rw [qe s1.sp.box];rfl
    have fz1:V1.frozen? ⟨sb,1,none⟩=false:=qi s1.sp.box 1
    have s2:=s1.sp.putNt m
    have s3:SB w (V1.setCell ⟨sb,1,none⟩ (.int .i64 (m:Int))) sb h' (sy0 G) []:=by
     have e:sy0 G=⟨(syR G k).tk,m,(syR G k).st,(syR G k).ex,(syR G k).nm,(syR G k).lv,(syR G k).az,(syR G k).rs⟩:=by
      unfold sy0 syR nmG
      rw [HS.out.2.2,HS.out.2.1]
     rw [e]
     exact s2
    have rx:(V1.setCell ⟨sb,1,none⟩ (.int .i64 (m:Int))).heap[rb]?=some (.cells zC 31 (0,0)):=by
     rw [Below.heap_setCell _ _ _ _ s1.ne]
     exact s1.rx
    have HS3:Hid (SB w (V1.setCell ⟨sb,1,none⟩ (.int .i64 (m:Int))) sb h' (sy0 G) []/\(V1.setCell ⟨sb,1,none⟩ (.int .i64 (m:Int))).heap[rb]?=some (.cells zC 31 (0,0))/\rb≠sb):=⟨s3,rx,s1.ne⟩
    clear s1 s2 s3 rx hB HS
    go_upto_region 17 with fail
    generalize V1.setCell ⟨sb,1,none⟩ (.int .i64 (m:Int))=Q at HS3 ⊢
    clear z1 fz1
    obtain ⟨q0,q1,q2,q3,q4,q5,q6,q8⟩:=sbox HS3.out.1.box
    have z0:Q.cell? ⟨rb,0,none⟩=some (.int .i64 0):=by rw [qe HS3.out.2.1];rfl
    have z1:Q.cell? ⟨rb,1,none⟩=some (.int .i64 0):=by rw [qe HS3.out.2.1];rfl
    have z2:Q.cell? ⟨rb,2,none⟩=some (.int .i64 0):=by rw [qe HS3.out.2.1];rfl
    have z3:Q.cell? ⟨rb,3,none⟩=some (.int .i64 0):=by rw [qe HS3.out.2.1];rfl
    have z4:Q.cell? ⟨rb,4,none⟩=some (.slice none 0 0):=by rw [qe HS3.out.2.1];rfl
    have z5:Q.cell? ⟨rb,5,none⟩=some (.slice none 0 0):=by rw [qe HS3.out.2.1];rfl
    have z6:Q.cell? ⟨rb,6,none⟩=some (.slice none 0 0):=by rw [qe HS3.out.2.1];rfl
    have z7:Q.cell? ⟨rb,7,none⟩=some (.slice none 0 0):=by rw [qe HS3.out.2.1];rfl
    have f0:Q.frozen? ⟨rb,0,none⟩=false:=qi HS3.out.2.1 0
    have f1:Q.frozen? ⟨rb,1,none⟩=false:=qi HS3.out.2.1 1
    have f2:Q.frozen? ⟨rb,2,none⟩=false:=qi HS3.out.2.1 2
    have f3:Q.frozen? ⟨rb,3,none⟩=false:=qi HS3.out.2.1 3
    have f4:Q.frozen? ⟨rb,4,none⟩=false:=qi HS3.out.2.1 4
    have f5:Q.frozen? ⟨rb,5,none⟩=false:=qi HS3.out.2.1 5
    have f6:Q.frozen? ⟨rb,6,none⟩=false:=qi HS3.out.2.1 6
    have f7:Q.frozen? ⟨rb,7,none⟩=false:=qi HS3.out.2.1 7
    have HF:Hid (∀ v0 v1 v2 v3 v4 v5 v6 v7,OwnSp (set8 Q rb v0 v1 v2 v3 v4 v5 v6 v7) w.heap.size h' (sy0 G) []/\Below w.heap.size w (set8 Q rb v0 v1 v2 v3 v4 v5 v6 v7)):=fun v0 v1 v2 v3 v4 v5 v6 v7=>⟨HS3.out.1.own.set8 ⟨_,HS3.out.2.1⟩,jd HS3.out.1.bel HRB.out⟩
    obtain ⟨r0,HR0⟩:∃ r0,Hid (((sy0 G).tk:Int)=r0):=⟨_,rfl⟩
    go_wp2_with fail
    refine bodyPost_ret (v:=sv h' (sy0 G)) (by unfold sv sC;simp [results,Tryz.results81,go_sem, *]) rfl ?_
    exact ⟨h',rfl,HF.out _ _ _ _ _ _ _ _⟩
structure Of0 (G:Gm) (S:Sp):Prop where
 tk:S.tk=G.ts.length
 nm:S.nm=nmG G
 lv:S.lv=G.ts.map (·.l)
 az:S.az=G.ts.map (·.a)
structure RO (w W:World) (b2 b3 b4 b5:Nat) (c2 c3:Array Value) (l:Int) (ys:List Nat) (xa:Option Addr) (xc:Nat):Prop where
 x2:W.heap[b2]?=some (.cells c2 55 (0,0))
 x3:W.heap[b3]?=some (.cells c3 31 (0,0))
 x4:W.heap[b4]?=some (.cells #[.int .i64 0,.slice none 0 0,.int .i64 0,.int .i64 0] 47 (0,0))
 x5:W.heap[b5]?=some (.cells #[.int .i64 l,.slice xa ys.length xc,.int .i64 0,.int .i64 0] 47 (0,0))
 own:W.ownsRow w.heap.size 3 1 (.slice xa ys.length xc) ys.length (natC ys)
 bel:Below w.heap.size w W
 ne:b4≠b5
 n5:w.heap.size<=b5
theorem RO.step {w W W':World} {b2 b3 b4 b5:Nat} {c2 c3:Array Value} {l:Int} {ys:List Nat} {xa:Option Addr} {xc:Nat} (s:RO w W b2 b3 b4 b5 c2 c3 l ys xa xc) (hb:Below W.heap.size W W'):RO w W' b2 b3 b4 b5 c2 c3 l ys xa xc :=
 ⟨qf hb s.x2,qf hb s.x3,qf hb s.x4,qf hb s.x5,zw s.own hb,qd s.bel hb,s.ne,s.n5⟩
theorem RO.add {w W:World} {b2 b3 b4 b5:Nat} {c2 c3:Array Value} {l:Int} {ys:List Nat} {xa:Option Addr} {xc:Nat} (s:RO w W b2 b3 b4 b5 c2 c3 l ys xa xc) (y:Nat) (hn:ys.length<1000) :
  ∃ g c W',(Builtin.append_ #[26,26] 26 #[.slice xa ys.length xc,.slice (some ⟨W.heap.size,0,none⟩) 1 1]).run Tryz.prog (W.alloc (.cells #[.int .i64 (y:Int)] 3))=.ok (.slice (some ⟨g,0,none⟩) (ys.length+1) c) W' /\
   W'.cell? ⟨b5,1,none⟩=some (.slice xa ys.length xc)/\W'.frozen? ⟨b5,1,none⟩=false/\RO w (W'.setCell ⟨b5,1,none⟩ (.slice (some ⟨g,0,none⟩) (ys.length+1) c)) b2 b3 b4 b5 c2 c3 l (ys++[y]) (some ⟨g,0,none⟩) c:=by
 obtain ⟨g,c,W',hr,ho,hk,hg⟩:=jc (us:=[.int .i64 (y:Int)]) u29 i3 rfl (by decide) (by decide) rfl (fun u hu=>by rw [List.mem_singleton] at hu;subst hu;rfl) s.own s.bel.size (by omega)
 have hk0:Kept (fun k=>blk xa=some k) W W':=((Kept.refl _ W).alloc _).trans hk (fun k _ e=>zi e)
 have bx:∀ {b T:Nat} {d:Array Value},W.heap[b]?=some (.cells d T (0,0))->T≠3->W'.heap[b]?=some (.cells d T (0,0)):=fun hb hT=>by
  rw [hk0.block _ (Array.getElem?_eq_some_iff.1 hb).1 (fun e=>qr ⟨_,hb⟩ (qw s.own e).2.2 hT rfl)];exact hb
 have y2:=bx s.x2 (by decide)
 have y3:=bx s.x3 (by decide)
 have y4:=bx s.x4 (by decide)
 have y5:=bx s.x5 (by decide)
 refine ⟨g,c,W',hr,by rw [qe y5];rfl,qi y5 1,?_,?_,?_,?_,?_,?_,s.ne,s.n5⟩
 ·exact (Below.heap_setCell _ _ _ _ (show b2≠b5 from qr ⟨_,y2⟩ ⟨_,y5⟩ (by decide))).trans y2
 ·exact (Below.heap_setCell _ _ _ _ (show b3≠b5 from qr ⟨_,y3⟩ ⟨_,y5⟩ (by decide))).trans y3
 ·exact (Below.heap_setCell _ _ _ _ s.ne).trans y4
 ·rw [setCell_eq_setRow W' b5 1 _ 47 (0,0) _ y5,setRow_heap _ _ _ _ 47 _ y5,List.length_append]
  rfl
 ·rw [jf,List.length_append]
  exact qh ho (fun i hi=>by
   cases hi
   exact Below.heap_setCell _ _ _ _ (qr (qx ho rfl) ⟨_,y5⟩ (by decide)))
 ·refine (s.bel.trans (hk0.below s.bel.size (fun k hk e=>?_))).setCell (p:=⟨b5,1,none⟩) s.n5 _
  have:=(qw s.own e).1
  omega
def bO (G:Gm) (r:Ru) (k:Nat):Option Nat:=if r.p=e0 then byL G (r.r.take k) else q9 (tkG G) r.p
theorem qse (G:Gm) (r:Ru):bO G r r.r.length=byG G r:=by
 unfold bO byG
 rw [List.take_of_length_le (Nat.le_refl _)]
theorem qro {G:Gm} (hm:MayP G) (r:Ru):bO G r 0=q9 (tkG G) r.p:=by
 unfold bO
 split
 ·rename_i h
  rw [h]
  have:q9 (tkG G) e0=none:=qdv (fun h=>qrk hm h rfl)
  rw [this]
  rfl
 ·rfl
structure RD7 (w W:World) (b4 b5:Nat) (l:Int) (ys:List Nat) (lv a:Int) (xa:Option Addr) (xc:Nat):Prop where
 x4:W.heap[b4]?=some (.cells #[.int .i64 0,.slice none 0 0,.int .i64 0,.int .i64 0] 47 (0,0))
 x5:W.heap[b5]?=some (.cells #[.int .i64 l,.slice xa ys.length xc,.int .i64 lv,.int .i64 a] 47 (0,0))
 own:W.ownsRow w.heap.size 3 1 (.slice xa ys.length xc) ys.length (natC ys)
 bel:Below w.heap.size w W
theorem RO.done {w W:World} {b2 b3 b4 b5:Nat} {c2 c3:Array Value} {l:Int} {ys:List Nat} {xa:Option Addr} {xc:Nat} (s:RO w W b2 b3 b4 b5 c2 c3 l ys xa xc):RD7 w W b4 b5 l ys 0 0 xa xc:=⟨s.x4,s.x5,s.own,s.bel⟩
theorem RD7.put2 {w W:World} {b4 b5:Nat} {l:Int} {ys:List Nat} {lv a:Int} {xa:Option Addr} {xc:Nat} (s:RD7 w W b4 b5 l ys lv a xa xc) (hne:b4≠b5) (hn:w.heap.size<=b5) (z:Int):RD7 w (W.setCell ⟨b5,2,none⟩ (.int .i64 z)) b4 b5 l ys z a xa xc:=by
 refine ⟨(Below.heap_setCell _ _ _ _ hne).trans s.x4,?_,qh s.own (fun i hi=>Below.heap_setCell _ _ _ _ (qr (qx s.own hi) ⟨_,s.x5⟩ (by decide))),s.bel.setCell (p:=⟨b5,2,none⟩) hn _⟩
 rw [setCell_eq_setRow W b5 2 _ 47 (0,0) _ s.x5,setRow_heap _ _ _ _ 47 _ s.x5]
 rfl
theorem RD7.put3 {w W:World} {b4 b5:Nat} {l:Int} {ys:List Nat} {lv a:Int} {xa:Option Addr} {xc:Nat} (s:RD7 w W b4 b5 l ys lv a xa xc) (hne:b4≠b5) (hn:w.heap.size<=b5) (z:Int):RD7 w (W.setCell ⟨b5,3,none⟩ (.int .i64 z)) b4 b5 l ys lv z xa xc:=by
 refine ⟨(Below.heap_setCell _ _ _ _ hne).trans s.x4,?_,qh s.own (fun i hi=>Below.heap_setCell _ _ _ _ (qr (qx s.own hi) ⟨_,s.x5⟩ (by decide))),s.bel.setCell (p:=⟨b5,3,none⟩) hn _⟩
 rw [setCell_eq_setRow W b5 3 _ 47 (0,0) _ s.x5,setRow_heap _ _ _ _ 47 _ s.x5]
 rfl
theorem j0 {W:World} {b j base E k n:Nat} {v u:Value} {cs:List Value} (h:W.ownsRow base E k v n cs) (hl:Loc W b 47) (hE:E≠47):(W.setCell ⟨b,j,none⟩ u).ownsRow base E k v n cs :=
 qh h (fun _ hi=>Below.heap_setCell _ _ _ _ (qr (qx h hi) hl hE))
theorem qdk {W:World} {b T:Nat} {a0 a1 a2 a3:Value} (h:W.heap[b]?=some (.cells #[a0,a1,a2,a3] T (0,0))) :
  W.cell? ⟨b,0,none⟩=some a0/\W.cell? ⟨b,1,none⟩=some a1/\W.cell? ⟨b,2,none⟩=some a2/\W.cell? ⟨b,3,none⟩=some a3/\W.frozen? ⟨b,0,none⟩=false/\W.frozen? ⟨b,1,none⟩=false/\W.frozen? ⟨b,2,none⟩=false/\W.frozen? ⟨b,3,none⟩=false :=
 ⟨by rw [qe h];rfl,by rw [qe h];rfl,by rw [qe h];rfl,by rw [qe h];rfl,qi h 0,qi h 1,qi h 2,qi h 3⟩
theorem qh8 (w:World) (o1 o2 o3:Obj):Below w.heap.size w (((w.alloc o1).alloc o2).alloc o3)/\(((w.alloc o1).alloc o2).alloc o3).heap[w.heap.size]?=some o1/\(((w.alloc o1).alloc o2).alloc o3).heap[w.heap.size+1]?=some o2/\(((w.alloc o1).alloc o2).alloc o3).heap[w.heap.size+1+1]?=some o3/\(((w.alloc o1).alloc o2).alloc o3).heap.size=w.heap.size+1+1+1:=by
 have h1:=heap_alloc_new w o1
 have h2:=heap_alloc_new (w.alloc o1) o2
 have h3:=heap_alloc_new ((w.alloc o1).alloc o2) o3
 rw [qt] at h2
 rw [qt,qt] at h3
 exact ⟨qd (qd (qb _ _) (qb _ _)) (qb _ _),qf (qb _ _) (qf (qb _ _) h1),qf (qb _ _) h2,h3,by rw [qt,qt,qt]⟩
theorem qj8 (G:Gm) (S:Sp) (h:SHd) (w:World) (hsp:IsSp w h S) (ho:Of0 G S) (hm:MayP G) (hs1:G.ts.length<=100) (hs2:G.rs.length<=200) (hn:NmP G) (r:Ru) (hr:r∈G.rs) (ya:Option Addr) (yc:Nat) (hrow:Row w 1 ya r.r.length yc (strC r.r)) :
  Calls Tryz.prog 99 #[.agg #[.string r.l,.slice ya r.r.length yc,.string r.p],.agg (sC h S)] w fun e w'=>∃ xa xc,e=.returned (.agg #[.int .i64 (ruG G r).l,.slice xa (ruG G r).r.length xc,.int .i64 (ruG G r).lv,.int .i64 (ruG G r).a])/\w'.ownsRow w.heap.size 3 1 (.slice xa (ruG G r).r.length xc) (ruG G r).r.length (natC (ruG G r).r)/\Below w.heap.size w w':=by
 have hrl:r.r.length<=20:=(hm.rl r hr).2.1
 have hyl:=ze hrow
 have hnl:S.nm.length=(nmG G).length:=by rw [ho.nm]
 have hnl2:(nmG G).length<=400:=by rw [jj];have:=j9 G.rs;omega
 have HG:Hid (IsSp w h S/\Of0 G S/\MayP G/\NmP G/\r∈G.rs/\Row w 1 ya r.r.length yc (strC r.r)):=⟨hsp,ho,hm,hn,hr,hrow⟩
 have HIX:Hid (∀ (V:World) (s:ByteArray),Below w.heap.size w V->Calls Tryz.prog 84 #[.slice h.na S.nm.length h.nc,.string s] V fun e w'=>e=.returned (.int .i64 (idxI (q9 (nmG G) s)))/\w'=V):=fun V s hV=>by
  have h1:=(hsp.below hV).nm
  rw [ho.nm] at h1 ⊢
  exact qa1 (nmG G) h.na h.nc s V h1 (by omega)
 have hqs:=ze hsp.nm
 have HTK:Hid (∀ V:World,Below w.heap.size w V->Calls Tryz.prog 97 #[.agg (sC h S)] V fun e w'=>e=.returned (.slice h.na S.tk h.nc)/\Row w' 1 h.na S.tk h.nc (strC (tkG G))/\Below V.heap.size V w'):=fun V hV=>by
  have:=qej h S V (hsp.below hV).nm (by rw [ho.tk,ho.nm,jj];omega)
  have e:S.nm.take S.tk=tkG G:=by
   rw [ho.nm,ho.tk]
   unfold nmG
   rw [List.take_append_of_le_length (by unfold tkG;simp),List.take_of_length_le (by unfold tkG;simp)]
  rw [e] at this
  exact this
 have HIT:Hid (∀ (V:World),Row V 1 h.na S.tk h.nc (strC (tkG G))->Calls Tryz.prog 84 #[.slice h.na S.tk h.nc,.string r.p] V fun e w'=>e=.returned (.int .i64 (idxI (q9 (tkG G) r.p)))/\w'=V):=fun V hV=>by
  have e:S.tk=(tkG G).length:=by rw [ho.tk];unfold tkG;simp
  rw [e] at hV ⊢
  exact qa1 (tkG G) h.na h.nc r.p V hV (by unfold tkG;simp;omega)
 have HN3:Hid (Below w.heap.size w (((w.alloc (.cells #[.string r.l,.slice ya r.r.length yc,.string r.p] 55)).alloc (.cells (sC h S) 31)).alloc (.cells #[.int .i64 0,.slice none 0 0,.int .i64 0,.int .i64 0] 47))/\(((w.alloc (.cells #[.string r.l,.slice ya r.r.length yc,.string r.p] 55)).alloc (.cells (sC h S) 31)).alloc (.cells #[.int .i64 0,.slice none 0 0,.int .i64 0,.int .i64 0] 47)).heap[w.heap.size]?=some (.cells #[.string r.l,.slice ya r.r.length yc,.string r.p] 55 (0,0))/\(((w.alloc (.cells #[.string r.l,.slice ya r.r.length yc,.string r.p] 55)).alloc (.cells (sC h S) 31)).alloc (.cells #[.int .i64 0,.slice none 0 0,.int .i64 0,.int .i64 0] 47)).heap[w.heap.size+1]?=some (.cells (sC h S) 31 (0,0))/\(((w.alloc (.cells #[.string r.l,.slice ya r.r.length yc,.string r.p] 55)).alloc (.cells (sC h S) 31)).alloc (.cells #[.int .i64 0,.slice none 0 0,.int .i64 0,.int .i64 0] 47)).heap[w.heap.size+1+1]?=some (.cells #[.int .i64 0,.slice none 0 0,.int .i64 0,.int .i64 0] 47 (0,0))/\(((w.alloc (.cells #[.string r.l,.slice ya r.r.length yc,.string r.p] 55)).alloc (.cells (sC h S) 31)).alloc (.cells #[.int .i64 0,.slice none 0 0,.int .i64 0,.int .i64 0] 47)).heap.size=w.heap.size+1+1+1):=qh8 w _ _ _
 clear hsp ho hm hn hr hrow
 obtain ⟨nl,HNL⟩:∃ nl,Hid (S.nm.length=nl):=⟨_,rfl⟩
 obtain ⟨rl,HRL⟩:∃ rl,Hid (r.r.length=rl):=⟨_,rfl⟩
 obtain ⟨tk,HTKN⟩:∃ tk,Hid (S.tk=tk):=⟨_,rfl⟩
 have e3:sC h S=#[.int .i64 (tk:Int),.int .i64 (S.nt:Int),.int .i64 (S.st:Int),.int .i64 S.ex,.slice h.na nl h.nc,.slice h.la S.lv.length h.lc,.slice h.aa S.az.length h.ac,.slice h.ra S.rs.length h.rc]:=by unfold sC;rw [HNL.out,HTKN.out]
 have hlv:S.lv.length=tk:=by rw [HG.out.2.1.lv,List.length_map,<-HG.out.2.1.tk];exact HTKN.out
 have haz:S.az.length=tk:=by rw [HG.out.2.1.az,List.length_map,<-HG.out.2.1.tk];exact HTKN.out
 rw [hlv,haz] at e3
 have hq5:=ze HG.out.1.lv
 have hq6:=ze HG.out.1.az
 rw [hlv] at hq5
 rw [haz] at hq6
 have htk9:tk<=100:=by rw [<-HTKN.out,HG.out.2.1.tk];exact hs1
 rw [HNL.out] at HIX hqs hnl
 rw [HTKN.out] at HTK HIT
 rw [HRL.out] at hrl hyl HN3 ⊢
 rw [e3] at HTK HN3 ⊢
 have hnl3:nl<=400:=by omega
 clear e3 hlv haz hnl hnl2
 generalize S.rs.length=sn at *
 go_enter Tryz.func99,Tryz.ntmps99
 go_upto_region 1 with fail
 generalize ((w.alloc (.cells #[.string r.l,.slice ya rl yc,.string r.p] 55)).alloc (.cells #[.int .i64 (tk:Int),.int .i64 (S.nt:Int),.int .i64 (S.st:Int),.int .i64 S.ex,.slice h.na nl h.nc,.slice h.la tk h.lc,.slice h.aa tk h.ac,.slice h.ra sn h.rc] 31)).alloc (.cells #[.int .i64 0,.slice none 0 0,.int .i64 0,.int .i64 0] 47)=W1 at HN3 ⊢
 obtain ⟨b2,HB2⟩:∃ b2,Hid (b2=w.heap.size):=⟨_,rfl⟩
 rw [<-HB2.out] at HN3 ⊢
 have HW1:Hid (Below w.heap.size w W1/\W1.heap[b2]?=some (.cells #[.string r.l,.slice ya rl yc,.string r.p] 55 (0,0))/\W1.heap[b2+1]?=some (.cells #[.int .i64 (tk:Int),.int .i64 (S.nt:Int),.int .i64 (S.st:Int),.int .i64 S.ex,.slice h.na nl h.nc,.slice h.la tk h.lc,.slice h.aa tk h.ac,.slice h.ra sn h.rc] 31 (0,0))/\W1.heap[b2+1+1]?=some (.cells #[.int .i64 0,.slice none 0 0,.int .i64 0,.int .i64 0] 47 (0,0))/\W1.heap.size=b2+1+1+1/\w.heap.size<=b2+1+1):=⟨by rw [<-HB2.out];exact HN3.out.1,HN3.out.2.1,HN3.out.2.2.1,HN3.out.2.2.2.1,HN3.out.2.2.2.2,by rw [HB2.out];omega⟩
 clear HN3 HB2
 generalize b2+1=b3 at *
 obtain ⟨b4,HB4⟩:∃ b4,Hid (b4=b3+1):=⟨_,rfl⟩
 rw [<-HB4.out] at HW1 ⊢
 have c4:W1.cell? ⟨b3,4,none⟩=some (.slice h.na nl h.nc):=by rw [qe HW1.out.2.2.1];rfl
 have c0:W1.cell? ⟨b2,0,none⟩=some (.string r.l):=by rw [qe HW1.out.2.1];rfl
 have HLL:Hid (idxI (q9 (nmG G) r.l)=(ruG G r).l):=by
  have hx:=qbt (G:=G) (.inr (qc1.2 ⟨r,HG.out.2.2.2.2.1,rfl⟩))
  show _=_
  rw [qc2 hx]
  rfl
 go_wp2_with fail
 refine (HIX.out _ _ HW1.out.1).mono ?_
 rintro e V ⟨rfl,rfl⟩
 obtain ⟨l,HL⟩:∃ l,Hid (idxI (q9 (nmG G) r.l)=l):=⟨_,rfl⟩
 rw [HL.out] at HLL ⊢
 have hv:Below V.heap.size V (V.alloc (.cells #[.int .i64 l,.slice none 0 0,.int .i64 0,.int .i64 0] 47)):=qb _ _
 have HO:Hid (RO w (V.alloc (.cells #[.int .i64 l,.slice none 0 0,.int .i64 0,.int .i64 0] 47)) b2 b3 b4 V.heap.size #[.string r.l,.slice ya rl yc,.string r.p] #[.int .i64 (tk:Int),.int .i64 (S.nt:Int),.int .i64 (S.st:Int),.int .i64 S.ex,.slice h.na nl h.nc,.slice h.la tk h.lc,.slice h.aa tk h.ac,.slice h.ra sn h.rc] l [] none 0) :=
  ⟨qf hv HW1.out.2.1,qf hv HW1.out.2.2.1,qf hv HW1.out.2.2.2.1,heap_alloc_new _ _,World.ownsRow_nil _ _ _ _,qd HW1.out.1 hv,by rw [HW1.out.2.2.2.2.1];omega,HW1.out.1.size⟩
 clear hv c4 c0
 go_upto_region 2 with fail
 generalize V.alloc (.cells #[.int .i64 l,.slice none 0 0,.int .i64 0,.int .i64 0] 47)=Q at HO ⊢
 obtain ⟨b5,HB5⟩:∃ b5,Hid (b5=V.heap.size):=⟨_,rfl⟩
 rw [<-HB5.out] at HO ⊢
 have HB4S:Hid (w.heap.size<=b4):=HW1.out.2.2.2.2.2
 clear HB5 HW1 HL HB4
 have c2:Q.cell? ⟨b2,2,none⟩=some (.string r.p):=by rw [qe HO.out.x2];rfl
 obtain ⟨d0,d1,d2,d3,d4,d5,d6,d7⟩:Q.cell? ⟨b3,0,none⟩=some (.int .i64 (tk:Int))/\Q.cell? ⟨b3,1,none⟩=some (.int .i64 (S.nt:Int))/\Q.cell? ⟨b3,2,none⟩=some (.int .i64 (S.st:Int))/\Q.cell? ⟨b3,3,none⟩=some (.int .i64 S.ex)/\Q.cell? ⟨b3,4,none⟩=some (.slice h.na nl h.nc)/\Q.cell? ⟨b3,5,none⟩=some (.slice h.la tk h.lc)/\Q.cell? ⟨b3,6,none⟩=some (.slice h.aa tk h.ac)/\Q.cell? ⟨b3,7,none⟩=some (.slice h.ra sn h.rc) :=
  ⟨by rw [qe HO.out.x3];rfl,by rw [qe HO.out.x3];rfl,by rw [qe HO.out.x3];rfl,by rw [qe HO.out.x3];rfl,by rw [qe HO.out.x3];rfl,by rw [qe HO.out.x3];rfl,by rw [qe HO.out.x3];rfl,by rw [qe HO.out.x3];rfl⟩
 have HZ:Hid (q9 (tkG G) r.p=bO G r 0):=(qro HG.out.2.2.1 r).symm
 rw [HZ.out] at HIT
 go_cut [6] (fun s6 wd=>s6=.int .i64 (idxI (bO G r 0))/\Hid (RO w wd b2 b3 b4 b5 #[.string r.l,.slice ya rl yc,.string r.p] #[.int .i64 (tk:Int),.int .i64 (S.nt:Int),.int .i64 (S.st:Int),.int .i64 S.ex,.slice h.na nl h.nc,.slice h.la tk h.lc,.slice h.aa tk h.ac,.slice h.ra sn h.rc] l [] none 0))
 case first =>
  go_region_with (first | (go_at_call 97;refine (HTK.out _ (qd HO.out.bel (qk _))).mono ?_;rintro e V1 ⟨rfl,hrow,hB⟩;have z2:V1.cell? ⟨b2,2,none⟩=some (.string r.p):=qj hB c2) | (go_at_call 84;refine (HIT.out _ hrow).mono ?_;rintro e V2 ⟨rfl,rfl⟩))
  all_goals
   have HF:Hid (RO w _ b2 b3 b4 b5 #[.string r.l,.slice ya rl yc,.string r.p] #[.int .i64 (tk:Int),.int .i64 (S.nt:Int),.int .i64 (S.st:Int),.int .i64 S.ex,.slice h.na nl h.nc,.slice h.la tk h.lc,.slice h.aa tk h.ac,.slice h.ra sn h.rc] l [] none 0):=(HO.out.step (qk _)).step hB
   clear hB hrow z2
   go_wp2_with fail
   go_meet
   exact ⟨rfl,HF⟩
 case rest =>
  obtain ⟨rfl,R0⟩:=hcut
  obtain ⟨w5,hw5⟩:∃ w5,w5=wc:=⟨_,rfl⟩
  subst wc
  clear c2 d0 d1 d2 d3 d4 d5 d6 d7 HO HTK HIT
  have c1:w5.cell? ⟨b2,1,none⟩=some (.slice ya rl yc):=by rw [qe R0.out.x2];rfl
  go_upto_block 0 with fail
  clear c1
  go_cut [6,24] (fun s6 s24 wd=>s6=.int .i64 (idxI (byG G r))/\Hid (∃ xa xc,RO w wd b2 b3 b4 b5 #[.string r.l,.slice ya rl yc,.string r.p] #[.int .i64 (tk:Int),.int .i64 (S.nt:Int),.int .i64 (S.st:Int),.int .i64 S.ex,.slice h.na nl h.nc,.slice h.la tk h.lc,.slice h.aa tk h.ac,.slice h.ra sn h.rc] l (ruG G r).r xa xc))
  case first =>
   go_wp2_with fail
   go_loopg [6,24] rl (fun kx s6 s24 wr=>∃ k:Nat,s6=.int .i64 (idxI (bO G r k))/\s24=.int .i64 k/\k<=rl/\rl - k<=kx/\Hid (∃ xa xc,RO w wr b2 b3 b4 b5 #[.string r.l,.slice ya rl yc,.string r.p] #[.int .i64 (tk:Int),.int .i64 (S.nt:Int),.int .i64 (S.st:Int),.int .i64 S.ex,.slice h.na nl h.nc,.slice h.la tk h.lc,.slice h.aa tk h.ac,.slice h.ra sn h.rc] l ((r.r.take k).map (ix (nmG G))) xa xc))
   case atStart=>exact ⟨0,rfl,rfl,Nat.zero_le _,by omega,(⟨_,_,R0.out⟩:∃ xa xc,RO w w5 b2 b3 b4 b5 #[.string r.l,.slice ya rl yc,.string r.p] #[.int .i64 (tk:Int),.int .i64 (S.nt:Int),.int .i64 (S.st:Int),.int .i64 S.ex,.slice h.na nl h.nc,.slice h.la tk h.lc,.slice h.aa tk h.ac,.slice h.ra sn h.rc] l ((r.r.take 0).map (ix (nmG G))) xa xc)⟩
   case round =>
    clear R0
    obtain ⟨k,rfl,rfl,hk,hg,J⟩:=hrel
    by_cases hlt:k<rl
    ·have hlt':(k:Int)<(rl:Int):=by omega
     obtain ⟨xa,xc,s⟩:=J.out
     obtain ⟨x,hx⟩:∃ x,r.r[k]?=some x:=⟨r.r[k]'(by rw [HRL.out];exact hlt),List.getElem?_eq_getElem _⟩
     obtain ⟨b,o,hya,q0⟩:=jm (HG.out.2.2.2.2.2.below s.bel) hx
     subst hya
     have hxm:x∈nmG G:=qbt (HG.out.2.2.2.1.rr r HG.out.2.2.2.2.1 x (List.mem_of_getElem? hx))
     have HXX:Hid (r.r[k]?=some x):=hx
     have c4:wr.cell? ⟨b3,4,none⟩=some (.slice h.na nl h.nc):=by rw [qe s.x3];rfl
     have HIC:Hid (Calls Tryz.prog 84 #[.slice h.na nl h.nc,.string x] wr fun e w'=>e=.returned (.int .i64 ((ix (nmG G) x:Nat):Int))/\w'=wr):=by
      have:=HIX.out wr x s.bel
      rw [qc2 hxm] at this
      exact this
     obtain ⟨y,HY⟩:∃ y,Hid (ix (nmG G) x=y):=⟨_,rfl⟩
     rw [HY.out] at HIC
     have hy9:y<=1000:=by
      have:=qeu hxm
      rw [HY.out,jj] at this
      have:=j9 G.rs
      omega
     have elk:((r.r.take k).map (ix (nmG G))).length=k:=by rw [List.length_map,List.length_take,HRL.out];omega
     obtain ⟨g,c,V1,hr1,x1,f1,s1⟩:=s.add y (by omega)
     have c1:wr.cell? ⟨b5,1,none⟩=some (.slice xa k xc):=by rw [qe s.x5,elk];rfl
     rw [elk] at hr1 x1 s1
     have HS1:Hid (RO w (V1.setCell ⟨b5,1,none⟩ (.slice (some ⟨g,0,none⟩) (k+1) c)) b2 b3 b4 b5 #[.string r.l,.slice (some ⟨b,o,none⟩) rl yc,.string r.p] #[.int .i64 (tk:Int),.int .i64 (S.nt:Int),.int .i64 (S.st:Int),.int .i64 S.ex,.slice h.na nl h.nc,.slice h.la tk h.lc,.slice h.aa tk h.ac,.slice h.ra sn h.rc] l ((r.r.take (k+1)).map (ix (nmG G))) (some ⟨g,0,none⟩) c):=by
      have e:(r.r.take (k+1)).map (ix (nmG G))=(r.r.take k).map (ix (nmG G))++[y]:=by rw [zn HXX.out,List.map_append,<-HY.out];rfl
      rw [e]
      exact s1
     clear s s1 J hx hxm elk
     go_upto_region 8 with (first | (go_at_call 84;refine HIC.out.mono ?_;rintro e V2 ⟨rfl,rfl⟩) | (at_builtin;refine Lib.wpList_append_run _ rfl _ _ _ _ rfl _ _ rfl rfl _ _ hr1 ?_))
     generalize V1.setCell ⟨b5,1,none⟩ (.slice (some ⟨g,0,none⟩) (k+1) c)=Q1 at HS1 ⊢
     clear hr1 x1 f1 c1 c4 q0 HIC
     have z2:Q1.cell? ⟨b2,2,none⟩=some (.string r.p):=by rw [qe HS1.out.x2];rfl
     have z0:Q1.cell? ⟨b3,0,none⟩=some (.int .i64 (tk:Int)):=by rw [qe HS1.out.x3];rfl
     have HF:Hid (∃ xa xc,RO w Q1 b2 b3 b4 b5 #[.string r.l,.slice (some ⟨b,o,none⟩) rl yc,.string r.p] #[.int .i64 (tk:Int),.int .i64 (S.nt:Int),.int .i64 (S.st:Int),.int .i64 S.ex,.slice h.na nl h.nc,.slice h.la tk h.lc,.slice h.aa tk h.ac,.slice h.ra sn h.rc] l ((r.r.take (k+1)).map (ix (nmG G))) xa xc):=⟨_,_,HS1.out⟩
     clear HS1
     by_cases hp:r.p=e0
     ·have hb:=(zo r.p).2 hp
      by_cases hyt:y<tk
      ·have hyt':(y:Int)<(tk:Int):=by omega
       have HE:Hid (bO G r (k+1)=some y):=by
        show _=_
        unfold bO
        rw [if_pos hp,zn HXX.out,qdj]
        unfold byS
        rw [HY.out,if_pos (by rw [<-HG.out.2.1.tk,HTKN.out];exact hyt)]
       clear hp
       go_wp2_with fail
       go_roundg (rl - (k+1))
       case measure=>omega
       case rel=>exact ⟨k+1,by rw [HE.out];rfl,by simp,by omega,Nat.le_refl _,HF⟩
      ·have hyt':¬ (y:Int)<(tk:Int):=by omega
       have HE:Hid (bO G r (k+1)=bO G r k):=by
        show _=_
        unfold bO
        rw [if_pos hp,if_pos hp,zn HXX.out,qdj]
        unfold byS
        rw [HY.out,if_neg (by rw [<-HG.out.2.1.tk,HTKN.out];exact hyt)]
       clear hp
       go_wp2_with fail
       go_roundg (rl - (k+1))
       case measure=>omega
       case rel=>exact ⟨k+1,by rw [HE.out],by simp,by omega,Nat.le_refl _,HF⟩
     ·have hb:(r.p.toList == [])=false:=by
       cases hq:(r.p.toList == [])
       ·rfl
       ·exact absurd ((zo r.p).1 hq) hp
      have HE:Hid (bO G r (k+1)=bO G r k):=by
       show _=_
       unfold bO
       rw [if_neg hp,if_neg hp]
      clear hp
      go_wp2_with fail
      go_roundg (rl - (k+1))
      case measure=>omega
      case rel=>exact ⟨k+1,by rw [HE.out],by simp,by omega,Nat.le_refl _,HF⟩
    ·have hlt':¬ (k:Int)<(rl:Int):=by omega
     have HE:Hid (bO G r k=byG G r):=by
      have e:k=r.r.length:=by rw [HRL.out];omega
      rw [e]
      exact qse G r
     have HF:Hid (∃ xa xc,RO w wr b2 b3 b4 b5 #[.string r.l,.slice ya rl yc,.string r.p] #[.int .i64 (tk:Int),.int .i64 (S.nt:Int),.int .i64 (S.st:Int),.int .i64 S.ex,.slice h.na nl h.nc,.slice h.la tk h.lc,.slice h.aa tk h.ac,.slice h.ra sn h.rc] l (ruG G r).r xa xc):=by
      have e:(r.r.take k).map (ix (nmG G))=(ruG G r).r:=by rw [List.take_of_length_le (by rw [HRL.out];omega)];rfl
      rw [<-e]
      exact J.out
     clear J
     go_wp2_with fail
     go_meet
     exact ⟨by rw [HE.out],HF⟩
  case rest =>
   obtain ⟨rfl,R1⟩:=hcut
   obtain ⟨w6,hw6⟩:∃ w6,w6=wc:=⟨_,rfl⟩
   subst wc
   clear R0 HIX
   obtain ⟨xa,xc,s⟩:=R1.out
   have HS:Hid (RO w w6 b2 b3 b4 b5 #[.string r.l,.slice ya rl yc,.string r.p] #[.int .i64 (tk:Int),.int .i64 (S.nt:Int),.int .i64 (S.st:Int),.int .i64 S.ex,.slice h.na nl h.nc,.slice h.la tk h.lc,.slice h.aa tk h.ac,.slice h.ra sn h.rc] l (ruG G r).r xa xc):=s
   clear s R1
   obtain ⟨zz,HZZ⟩:∃ zz,Hid (idxI (byG G r)=zz):=⟨_,rfl⟩
   rw [HZZ.out]
   go_upto_if 50 with fail
   go_cut [49] (fun s49 wd=>Hid (RD7 w wd b4 b5 l (ruG G r).r (ruG G r).lv (ruG G r).a xa xc))
   case first =>
    have HLV:Hid ((ruG G r).lv=lvO G.ts (byG G r)/\(ruG G r).a=azO G.ts (byG G r)):=⟨rfl,rfl⟩
    cases hby:byG G r with
    | none =>
     have HF:Hid (RD7 w w6 b4 b5 l (ruG G r).r (ruG G r).lv (ruG G r).a xa xc):=by
      have h1:=HLV.out
      rw [hby] at h1
      rw [h1.1,h1.2]
      exact HS.out.done
     have hz:¬ (0:Int)<=zz:=by rw [<-HZZ.out,hby];decide
     clear hby
     go_wp2_with fail
     go_meet
     exact HF
    | some j =>
     have hj:j<G.ts.length:=qon hby
     obtain ⟨u,hu⟩:∃ u,G.ts[j]?=some u:=⟨G.ts[j],List.getElem?_eq_getElem hj⟩
     have q5:w6.cell? ⟨b3,5,none⟩=some (.slice h.la tk h.lc):=by rw [qe HS.out.x3];rfl
     have q6:w6.cell? ⟨b3,6,none⟩=some (.slice h.aa tk h.ac):=by rw [qe HS.out.x3];rfl
     obtain ⟨b,o,hla,v5⟩:=qcy (HG.out.1.lv.below HS.out.bel) (i:=j) (x:=u.l) (by rw [HG.out.2.1.lv,List.getElem?_map,hu];rfl)
     obtain ⟨b',o',haa,v6⟩:=qcy (HG.out.1.az.below HS.out.bel) (i:=j) (x:=u.a) (by rw [HG.out.2.1.az,List.getElem?_map,hu];rfl)
     have hbl:b<w.heap.size:=by
      obtain ⟨b9,o9,h9,v9⟩:=qcy HG.out.1.lv (i:=j) (x:=u.l) (by rw [HG.out.2.1.lv,List.getElem?_map,hu];rfl)
      rw [hla] at h9
      cases h9
      exact World.block_lt_of_cell? w _ v9
     have hbl':b'<w.heap.size:=by
      obtain ⟨b9,o9,h9,v9⟩:=qcy HG.out.1.az (i:=j) (x:=u.a) (by rw [HG.out.2.1.az,List.getElem?_map,hu];rfl)
      rw [haa] at h9
      cases h9
      exact World.block_lt_of_cell? w _ v9
     rw [hla] at q5
     rw [haa] at q6
     have hjt:j<tk:=by rw [<-HTKN.out,HG.out.2.1.tk];exact hj
     have hjt':(j:Int)<(tk:Int):=by omega
     have y2:w6.cell? ⟨b5,2,none⟩=some (.int .i64 0):=by rw [qe HS.out.x5];rfl
     have y3:w6.cell? ⟨b5,3,none⟩=some (.int .i64 0):=by rw [qe HS.out.x5];rfl
     have f2:w6.frozen? ⟨b5,2,none⟩=false:=qi HS.out.x5 2
     have f3:w6.frozen? ⟨b5,3,none⟩=false:=qi HS.out.x5 3
     have hdw:=HS.out.step (qk w6)
     have hl1:(ruG G r).lv=u.l/\(ruG G r).a=u.a:=by
      have h1:=HLV.out
      rw [hby] at h1
      rw [h1.1,h1.2]
      unfold lvO azO
      simp only [hu]
      exact ⟨rfl,rfl⟩
     have HFA:Hid (RD7 w ((w6.drew.setCell ⟨b5,2,none⟩ (.int .i64 u.l)).setCell ⟨b5,3,none⟩ (.int .i64 u.a)) b4 b5 l (ruG G r).r (ruG G r).lv (ruG G r).a xa xc):=by
      rw [hl1.1,hl1.2]
      exact (hdw.done.put2 hdw.ne hdw.n5 u.l).put3 hdw.ne hdw.n5 u.a
     have HFB:Hid (RD7 w ((w6.drew.setCell ⟨b5,3,none⟩ (.int .i64 u.a)).setCell ⟨b5,2,none⟩ (.int .i64 u.l)) b4 b5 l (ruG G r).r (ruG G r).lv (ruG G r).a xa xc):=by
      rw [hl1.1,hl1.2]
      exact (hdw.done.put3 hdw.ne hdw.n5 u.a).put2 hdw.ne hdw.n5 u.l
     obtain rfl:zz=(j:Int):=by rw [<-HZZ.out,hby];rfl
     have n3:b3≠b5:=qr ⟨_,HS.out.x3⟩ ⟨_,HS.out.x5⟩ (by decide)
     have n5':b≠b5:=by have:=HS.out.n5;omega
     have n6':b'≠b5:=by have:=HS.out.n5;omega
     clear hdw hl1 hu hby hla haa hj hbl hbl'
     go_upto_region 12 with fail
     go_region_held (fun w'=>w'.cell? ⟨b3,5,none⟩=some (.slice (some ⟨b,o,none⟩) tk h.lc)/\w'.cell? ⟨b3,6,none⟩=some (.slice (some ⟨b',o',none⟩) tk h.ac)/\w'.cell? ⟨b,o+j,none⟩=some (.int .i64 u.l)/\w'.cell? ⟨b',o'+j,none⟩=some (.int .i64 u.a)) (first | exact ⟨q5,q6,v5,v6⟩ | exact ⟨qz q5 n3,qz q6 n3,qz v5 n5',qz v6 n6'⟩ | exact ⟨qz (qz q5 n3) n3,qz (qz q6 n3) n3,qz (qz v5 n5') n5',qz (qz v6 n6') n6'⟩) (fail)
     all_goals
      go_wp2_with fail
      go_meet
      first | exact HFA | exact HFB
   case rest =>
    obtain ⟨w7,hw7⟩:∃ w7,w7=wc:=⟨_,rfl⟩
    subst wc
    have HD:Hid (RD7 w w7 b4 b5 l (ruG G r).r (ruG G r).lv (ruG G r).a xa xc/\w.heap.size<=b4):=⟨hcut.out,HB4S.out⟩
    clear hcut HS
    have y0:w7.cell? ⟨b5,0,none⟩=some (.int .i64 l):=by rw [qe HD.out.1.x5];rfl
    have y1:w7.cell? ⟨b5,1,none⟩=some (.slice xa (ruG G r).r.length xc):=by rw [qe HD.out.1.x5];rfl
    have y2:w7.cell? ⟨b5,2,none⟩=some (.int .i64 (ruG G r).lv):=by rw [qe HD.out.1.x5];rfl
    have y3:w7.cell? ⟨b5,3,none⟩=some (.int .i64 (ruG G r).a):=by rw [qe HD.out.1.x5];rfl
    obtain ⟨z0,z1,z2,z3,f0,f1,f2,f3⟩:=qdk HD.out.1.x4
    have HF:Hid (∀ v0 v1 v2 v3,((((w7.setCell ⟨b4,0,none⟩ v0).setCell ⟨b4,1,none⟩ v1).setCell ⟨b4,2,none⟩ v2).setCell ⟨b4,3,none⟩ v3).ownsRow w.heap.size 3 1 (.slice xa (ruG G r).r.length xc) (ruG G r).r.length (natC (ruG G r).r)/\Below w.heap.size w ((((w7.setCell ⟨b4,0,none⟩ v0).setCell ⟨b4,1,none⟩ v1).setCell ⟨b4,2,none⟩ v2).setCell ⟨b4,3,none⟩ v3)):=fun v0 v1 v2 v3=>by
     have hl:Loc w7 b4 47:=⟨_,HD.out.1.x4⟩
     have l1:=hl.set b4 0 v0
     have l2:=l1.set b4 1 v1
     have l3:=l2.set b4 2 v2
     exact ⟨j0 (j0 (j0 (j0 HD.out.1.own hl (by decide)) l1 (by decide)) l2 (by decide)) l3 (by decide),(((HD.out.1.bel.setCell (p:=⟨b4,0,none⟩) HD.out.2 _).setCell (p:=⟨b4,1,none⟩) HD.out.2 _).setCell (p:=⟨b4,2,none⟩) HD.out.2 _).setCell (p:=⟨b4,3,none⟩) HD.out.2 _⟩
    obtain ⟨yn,HYN⟩:∃ yn,Hid ((ruG G r).r.length=yn):=⟨_,rfl⟩
    obtain ⟨ylv,HYL⟩:∃ ylv,Hid ((ruG G r).lv=ylv):=⟨_,rfl⟩
    obtain ⟨yaa,HYA⟩:∃ yaa,Hid ((ruG G r).a=yaa):=⟨_,rfl⟩
    rw [HYN.out] at y1
    rw [HYL.out] at y2
    rw [HYA.out] at y3
    go_wp2_with fail
    refine bodyPost_ret (v:=.agg #[.int .i64 l,.slice xa yn xc,.int .i64 ylv,.int .i64 yaa]) (by simp [results,Tryz.results99,go_sem, *]) rfl ?_
    exact ⟨xa,xc,by rw [<-HLL.out,HYN.out,HYL.out,HYA.out],HF.out _ _ _ _⟩
structure RS7 (w W:World) (b2 b3:Nat) (c2 c3:Array Value) (qs:List (SR × Option Addr × Nat)) (ao:Option Addr) (n c:Nat):Prop where
 x2:W.heap[b2]?=some (.cells c2 25 (0,0))
 x3:W.heap[b3]?=some (.cells c3 31 (0,0))
 len:n=qs.length
 own:W.ownsRow w.heap.size 47 4 (.slice ao n c) n (srC qs)
 row:∀ q∈qs,W.ownsRow w.heap.size 3 1 (.slice q.2.1 q.1.r.length q.2.2) q.1.r.length (natC q.1.r)
 bel:Below w.heap.size w W
theorem RS7.step {w W W':World} {b2 b3:Nat} {c2 c3:Array Value} {qs:List (SR × Option Addr × Nat)} {ao:Option Addr} {n c:Nat} (s:RS7 w W b2 b3 c2 c3 qs ao n c) (hb:Below W.heap.size W W'):RS7 w W' b2 b3 c2 c3 qs ao n c :=
 ⟨qf hb s.x2,qf hb s.x3,s.len,zw s.own hb,fun q hq=>zw (s.row q hq) hb,qd s.bel hb⟩
theorem RS7.add {w W:World} {b2 b3:Nat} {c2 c3:Array Value} {qs:List (SR × Option Addr × Nat)} {ao:Option Addr} {n c:Nat} (s:RS7 w W b2 b3 c2 c3 qs ao n c) (q:SR × Option Addr × Nat) (hq:W.ownsRow w.heap.size 3 1 (.slice q.2.1 q.1.r.length q.2.2) q.1.r.length (natC q.1.r)) (hn:n<10000) :
  ∃ g c' W',(Builtin.append_ #[29,29] 29 #[.slice ao n c,.slice (some ⟨W.heap.size,0,none⟩) 1 1]).run Tryz.prog (W.alloc (.cells #[.int .i64 q.1.l,.slice q.2.1 q.1.r.length q.2.2,.int .i64 q.1.lv,.int .i64 q.1.a] 47))=.ok (.slice (some ⟨g,0,none⟩) (n+1) c') W'/\RS7 w W' b2 b3 c2 c3 (qs++[q]) (some ⟨g,0,none⟩) (n+1) c':=by
 obtain ⟨g,c',W',hr,ho,hk,hg⟩:=jc (us:=[.int .i64 q.1.l,.slice q.2.1 q.1.r.length q.2.2,.int .i64 q.1.lv,.int .i64 q.1.a]) u30 i62 rfl (by decide) (by decide) rfl (fun u hu=>by simp at hu;rcases hu with rfl | rfl | rfl | rfl <;> rfl) s.own s.bel.size (by omega)
 have hk0:Kept (fun k=>blk ao=some k) W W':=((Kept.refl _ W).alloc _).trans hk (fun k _ e=>zi e)
 have bx:∀ {b T:Nat} {d:Array Value},W.heap[b]?=some (.cells d T (0,0))->T≠47->W'.heap[b]?=some (.cells d T (0,0)):=fun hb hT=>by
  rw [hk0.block _ (Array.getElem?_eq_some_iff.1 hb).1 (fun e=>qr ⟨_,hb⟩ (qw s.own e).2.2 hT rfl)];exact hb
 have stay:∀ {E k n:Nat} {v:Value} {cs:List Value},W.ownsRow w.heap.size E k v n cs->E≠47->W'.ownsRow w.heap.size E k v n cs:=fun ho hE=>j8 ho hk0 (fun i hi e=>qr (qx ho hi) (qw s.own e).2.2 hE rfl)
 refine ⟨g,c',W',hr,bx s.x2 (by decide),bx s.x3 (by decide),by rw [List.length_append,s.len];rfl,by rw [qj6];exact ho,?_,?_⟩
 ·intro q' hq'
  rcases List.mem_append.1 hq' with h1 | h1
  ·exact stay (s.row q' h1) (by decide)
  ·rw [List.mem_singleton] at h1
   subst h1
   exact stay hq (by decide)
 ·refine s.bel.trans (hk0.below s.bel.size (fun k hk e=>?_))
  have:=(qw s.own e).1
  omega
theorem qi3 (G:Gm) (hd:Hd) (S:Sp) (h:SHd) (w:World) (hG:IsG w hd G) (hsp:IsSp w h S) (ho:Of0 G S) (hm:MayP G) (hn:NmP G) :
  Calls Tryz.prog 86 #[gv hd G,.agg (sC h S)] w fun e w'=>∃ ao c qs,e=.returned (.slice ao (G.rs.length+1) c)/\(w'.ownsRow w.heap.size 47 4 (.slice ao (G.rs.length+1) c) (G.rs.length+1) (srC qs)/\qs.map (·.1)=⟨-1,[S.st],0,0⟩ :: G.rs.map (ruG G)/\∀ q∈qs,w'.ownsRow w.heap.size 3 1 (.slice q.2.1 q.1.r.length q.2.2) q.1.r.length (natC q.1.r))/\Below w.heap.size w w':=by
 have hs1:G.ts.length<=100:=hG.small.nt
 have hs2:G.rs.length<=200:=hG.small.nr
 have hm2:=kj hG.rul
 have HRC:Hid (∀ (V:World) (r:Ru) (ya:Option Addr) (yc:Nat),Below w.heap.size w V->r∈G.rs->Row V 1 ya r.r.length yc (strC r.r)->Calls Tryz.prog 99 #[.agg #[.string r.l,.slice ya r.r.length yc,.string r.p],.agg (sC h S)] V fun e w'=>∃ xa xc,e=.returned (.agg #[.int .i64 (ruG G r).l,.slice xa (ruG G r).r.length xc,.int .i64 (ruG G r).lv,.int .i64 (ruG G r).a])/\w'.ownsRow V.heap.size 3 1 (.slice xa (ruG G r).r.length xc) (ruG G r).r.length (natC (ruG G r).r)/\Below V.heap.size V w'):=fun V r ya yc hV hr hrow=>qj8 G S h V (hsp.below hV) ho hm hs1 hs2 hn r hr ya yc hrow
 have HG:Hid (IsG w hd G):=hG
 clear hG hsp ho hm hn
 obtain ⟨ta,tc,ra,rc⟩:=hd
 unfold gv
 simp only at hm2 ⊢
 have hB:Below w.heap.size w ((w.alloc (.cells #[.slice ta G.ts.length tc,.string G.s,.int .i64 G.e,.slice ra G.rs.length rc] 25)).alloc (.cells (sC h S) 31)):=qd (qb _ _) (qb _ _)
 have hb0:((w.alloc (.cells #[.slice ta G.ts.length tc,.string G.s,.int .i64 G.e,.slice ra G.rs.length rc] 25)).alloc (.cells (sC h S) 31)).heap[w.heap.size]?=some (.cells #[.slice ta G.ts.length tc,.string G.s,.int .i64 G.e,.slice ra G.rs.length rc] 25 (0,0)):=qf (qb _ _) (heap_alloc_new _ _)
 have hb1:((w.alloc (.cells #[.slice ta G.ts.length tc,.string G.s,.int .i64 G.e,.slice ra G.rs.length rc] 25)).alloc (.cells (sC h S) 31)).heap[w.heap.size+1]?=some (.cells (sC h S) 31 (0,0)):=by
  have:=heap_alloc_new (w.alloc (.cells #[.slice ta G.ts.length tc,.string G.s,.int .i64 G.e,.slice ra G.rs.length rc] 25)) (.cells (sC h S) 31)
  rwa [qt] at this
 obtain ⟨rn,HRN⟩:∃ rn,Hid (G.rs.length=rn):=⟨_,rfl⟩
 obtain ⟨tn,HTN⟩:∃ tn,Hid (G.ts.length=tn):=⟨_,rfl⟩
 rw [HRN.out] at hs2 hm2 hB hb0 hb1 ⊢
 rw [HTN.out] at hs1 hB hb0 hb1 ⊢
 obtain ⟨s3,hs3⟩:∃ s3,sC h S=s3:=⟨_,rfl⟩
 have hs3':=hs3
 unfold sC at hs3'
 subst hs3'
 rw [hs3] at HRC hB hb0 hb1 ⊢
 go_enter Tryz.func86,Tryz.ntmps86
 go_upto_region 1 with fail
 generalize (w.alloc (.cells #[.slice ta tn tc,.string G.s,.int .i64 G.e,.slice ra rn rc] 25)).alloc (.cells #[.int .i64 (S.tk:Int),.int .i64 (S.nt:Int),.int .i64 (S.st:Int),.int .i64 S.ex,.slice h.na S.nm.length h.nc,.slice h.la S.lv.length h.lc,.slice h.aa S.az.length h.ac,.slice h.ra S.rs.length h.rc] 31)=W1 at hB hb0 hb1 ⊢
 obtain ⟨b2,HB2⟩:∃ b2,Hid (b2=w.heap.size):=⟨_,rfl⟩
 rw [<-HB2.out] at hb0 hb1 ⊢
 generalize b2+1=b3 at *
 have d2:W1.cell? ⟨b3,2,none⟩=some (.int .i64 (S.st:Int)):=by rw [qe hb1];rfl
 have hv1:Below W1.heap.size W1 (W1.alloc (.cells #[.int .i64 (S.st:Int)] 3)):=qb _ _
 have hv2:Below (W1.alloc (.cells #[.int .i64 (S.st:Int)] 3)).heap.size (W1.alloc (.cells #[.int .i64 (S.st:Int)] 3)) ((W1.alloc (.cells #[.int .i64 (S.st:Int)] 3)).alloc (.cells #[.int .i64 (-1),.slice (some ⟨W1.heap.size,0,none⟩) 1 1,.int .i64 0,.int .i64 0] 47)):=qb _ _
 have H0:Hid (RS7 w ((W1.alloc (.cells #[.int .i64 (S.st:Int)] 3)).alloc (.cells #[.int .i64 (-1),.slice (some ⟨W1.heap.size,0,none⟩) 1 1,.int .i64 0,.int .i64 0] 47)) b2 b3 #[.slice ta tn tc,.string G.s,.int .i64 G.e,.slice ra rn rc] #[.int .i64 (S.tk:Int),.int .i64 (S.nt:Int),.int .i64 (S.st:Int),.int .i64 S.ex,.slice h.na S.nm.length h.nc,.slice h.la S.lv.length h.lc,.slice h.aa S.az.length h.ac,.slice h.ra S.rs.length h.rc] [(⟨-1,[S.st],0,0⟩,some ⟨W1.heap.size,0,none⟩,1)] (some ⟨W1.heap.size+1,0,none⟩) 1 1):=by
  refine ⟨qf hv2 (qf hv1 hb0),qf hv2 (qf hv1 hb1),rfl,?_,?_,qd (qd hB hv1) hv2⟩
  ·have:=vz (W1.alloc (.cells #[.int .i64 (S.st:Int)] 3)) w.heap.size 47 4 1 [.int .i64 (-1),.slice (some ⟨W1.heap.size,0,none⟩) 1 1,.int .i64 0,.int .i64 0] (by rw [qt];have:=hB.size;omega) rfl (by omega)
   rw [qt] at this
   exact this
  ·intro q hq
   rw [List.mem_singleton] at hq
   subst hq
   exact zw (vz W1 w.heap.size 3 1 1 [.int .i64 (S.st:Int)] hB.size rfl (by omega)) hv2
 clear hv1 hv2 hB hb0 hb1 HB2
 go_upto_region 2 with fail
 generalize (W1.alloc (.cells #[.int .i64 (S.st:Int)] 3)).alloc (.cells #[.int .i64 (-1),.slice (some ⟨W1.heap.size,0,none⟩) 1 1,.int .i64 0,.int .i64 0] 47)=W2 at H0 ⊢
 generalize W1.heap.size=c1 at H0 ⊢
 clear d2
 have p3:W2.cell? ⟨b2,3,none⟩=some (.slice ra rn rc):=by rw [qe H0.out.x2];rfl
 go_wp2_with fail
 clear p3
 go_loopg [5,16] rn (fun kx s5 s16 wr=>∃ (k:Nat) (ao:Nat × Nat),s5=.slice (some ⟨ao.1,0,none⟩) (k+1) ao.2/\s16=.int .i64 k/\k<=rn/\rn - k<=kx/\Hid (∃ qs,RS7 w wr b2 b3 #[.slice ta tn tc,.string G.s,.int .i64 G.e,.slice ra rn rc] #[.int .i64 (S.tk:Int),.int .i64 (S.nt:Int),.int .i64 (S.st:Int),.int .i64 S.ex,.slice h.na S.nm.length h.nc,.slice h.la S.lv.length h.lc,.slice h.aa S.az.length h.ac,.slice h.ra S.rs.length h.rc] qs (some ⟨ao.1,0,none⟩) (k+1) ao.2/\qs.map (·.1)=⟨-1,[S.st],0,0⟩ :: (G.rs.take k).map (ruG G)))
 case atStart=>exact ⟨0,(c1+1,1),rfl,rfl,Nat.zero_le _,by omega,(⟨_,H0.out,rfl⟩:∃ qs,RS7 w W2 b2 b3 #[.slice ta tn tc,.string G.s,.int .i64 G.e,.slice ra rn rc] #[.int .i64 (S.tk:Int),.int .i64 (S.nt:Int),.int .i64 (S.st:Int),.int .i64 S.ex,.slice h.na S.nm.length h.nc,.slice h.la S.lv.length h.lc,.slice h.aa S.az.length h.ac,.slice h.ra S.rs.length h.rc] qs (some ⟨c1+1,0,none⟩) (0+1) 1/\qs.map (·.1)=⟨-1,[S.st],0,0⟩ :: (G.rs.take 0).map (ruG G))⟩
 case round =>
  clear H0
  obtain ⟨k,⟨ag,ac⟩,rfl,rfl,hk,hg,J⟩:=hrel
  simp only at J
  by_cases hlt:k<rn
  ·have hlt':(k:Int)<(rn:Int):=by omega
   obtain ⟨qs,s,hmp⟩:=J.out
   obtain ⟨r,hr⟩:∃ r,G.rs[k]?=some r:=⟨G.rs[k]'(by rw [HRN.out];exact hlt),List.getElem?_eq_getElem _⟩
   obtain ⟨b,o,ya,yc,hra,d0,d1,d2,hrow⟩:=(HG.out.rul.below s.bel).at hr
   simp only at hra
   subst hra
   have hv:Below wr.heap.size wr (wr.alloc (.cells #[.string r.l,.slice ya r.r.length yc,.string r.p] 55)):=qb _ _
   have HV:Hid (RS7 w (wr.alloc (.cells #[.string r.l,.slice ya r.r.length yc,.string r.p] 55)) b2 b3 #[.slice ta tn tc,.string G.s,.int .i64 G.e,.slice (some ⟨b,o,none⟩) rn rc] #[.int .i64 (S.tk:Int),.int .i64 (S.nt:Int),.int .i64 (S.st:Int),.int .i64 S.ex,.slice h.na S.nm.length h.nc,.slice h.la S.lv.length h.lc,.slice h.aa S.az.length h.ac,.slice h.ra S.rs.length h.rc] qs (some ⟨ag,0,none⟩) (k+1) ac/\(wr.alloc (.cells #[.string r.l,.slice ya r.r.length yc,.string r.p] 55)).heap[wr.heap.size]?=some (.cells #[.string r.l,.slice ya r.r.length yc,.string r.p] 55 (0,0))/\Row (wr.alloc (.cells #[.string r.l,.slice ya r.r.length yc,.string r.p] 55)) 1 ya r.r.length yc (strC r.r)/\G.rs[k]?=some r/\qs.map (·.1)=⟨-1,[S.st],0,0⟩ :: (G.rs.take k).map (ruG G)):=⟨s.step hv,heap_alloc_new _ _,hrow.below hv,hr,hmp⟩
   clear s J hr hv hmp hrow
   go_upto_region 5 with fail
   obtain ⟨b7,HB7⟩:∃ b7,Hid (b7=wr.heap.size):=⟨_,rfl⟩
   rw [<-HB7.out] at HV ⊢
   generalize wr.alloc (.cells #[.string r.l,.slice ya r.r.length yc,.string r.p] 55)=V at HV ⊢
   clear HB7 d0 d1 d2
   have q0:V.cell? ⟨b7,0,none⟩=some (.string r.l):=by rw [qe HV.out.2.1];rfl
   have q1:V.cell? ⟨b7,1,none⟩=some (.slice ya r.r.length yc):=by rw [qe HV.out.2.1];rfl
   have q2:V.cell? ⟨b7,2,none⟩=some (.string r.p):=by rw [qe HV.out.2.1];rfl
   obtain ⟨c0,c1',c2,c3,c4,c5,c6,c7⟩:=sbox HV.out.1.x3
   go_wp2_with fail
   refine (HRC.out _ r ya yc HV.out.1.bel (List.mem_of_getElem? HV.out.2.2.2.1) HV.out.2.2.1).mono ?_
   rintro e V1 ⟨xa,xc,rfl,hown,hB⟩
   clear q0 q1 q2 c0 c1' c2 c3 c4 c5 c6 c7
   obtain ⟨g,c',V2,hr1,s2⟩:=(HV.out.1.step hB).add (ruG G r,xa,xc) (zd hown HV.out.1.bel.size) (by omega)
   have HF:Hid (∃ qs,RS7 w V2 b2 b3 #[.slice ta tn tc,.string G.s,.int .i64 G.e,.slice (some ⟨b,o,none⟩) rn rc] #[.int .i64 (S.tk:Int),.int .i64 (S.nt:Int),.int .i64 (S.st:Int),.int .i64 S.ex,.slice h.na S.nm.length h.nc,.slice h.la S.lv.length h.lc,.slice h.aa S.az.length h.ac,.slice h.ra S.rs.length h.rc] qs (some ⟨g,0,none⟩) (k+1+1) c'/\qs.map (·.1)=⟨-1,[S.st],0,0⟩ :: (G.rs.take (k+1)).map (ruG G)):=by
    refine ⟨_,s2,?_⟩
    rw [List.map_append,HV.out.2.2.2.2,zn HV.out.2.2.2.1]
    simp
   simp only at hr1
   clear s2 hown hB HV
   generalize (ruG G r).r.length=yn at *
   go_wp2_with (at_builtin;refine Lib.wpList_append_run _ rfl _ _ _ _ rfl _ _ rfl rfl _ _ hr1 ?_)
   go_roundg (rn - (k+1))
   case measure=>omega
   case rel=>exact ⟨k+1,(g,c'),rfl,by simp,by omega,Nat.le_refl _,HF⟩
  ·have hlt':¬ (k:Int)<(rn:Int):=by omega
   have HF:Hid (∃ qs,(wr.ownsRow w.heap.size 47 4 (.slice (some ⟨ag,0,none⟩) (rn+1) ac) (rn+1) (srC qs)/\qs.map (·.1)=⟨-1,[S.st],0,0⟩ :: G.rs.map (ruG G)/\∀ q∈qs,wr.ownsRow w.heap.size 3 1 (.slice q.2.1 q.1.r.length q.2.2) q.1.r.length (natC q.1.r))/\Below w.heap.size w wr):=by
    have hk:k=rn:=by omega
    subst hk
    obtain ⟨qs,s,hmp⟩:=J.out
    rw [List.take_of_length_le (by rw [HRN.out];exact Nat.le_refl _)] at hmp
    exact ⟨qs,⟨s.own,hmp,s.row⟩,s.bel⟩
   have hk:k=rn:=by omega
   clear J
   subst hk
   go_wp2_with fail
   go_ret
   obtain ⟨qs,hq⟩:=HF.out
   exact ⟨_,_,rfl,⟨qs,hq.1.1,hq.1.2.1,fun a b c hm=>hq.1.2.2 (a,b,c) hm⟩,hq.2⟩
theorem Of0.drop {G:Gm} {S:Sp} (ho:Of0 G S):S.nm.drop (S.tk+1)=lfs G.rs:=by
 rw [ho.nm,ho.tk]
 unfold nmG
 have e:tkG G++e0 :: lfs G.rs=(tkG G++[e0])++lfs G.rs:=by simp
 rw [e,List.drop_append_of_le_length (by unfold tkG;simp),List.drop_of_length_le (by unfold tkG;simp)]
 rfl
theorem Of0.take {G:Gm} {S:Sp} (ho:Of0 G S):S.nm.take S.tk=tkG G:=by
 rw [ho.nm,ho.tk]
 unfold nmG
 rw [List.take_append_of_le_length (by unfold tkG;simp),List.take_of_length_le (by unfold tkG;simp)]
theorem Of0.len {G:Gm} {S:Sp} (ho:Of0 G S):S.nm.length - (S.tk+1)=(lfs G.rs).length:=by
 rw [ho.nm,ho.tk,jj];omega
theorem qh9 {G:Gm} {S:Sp} (ho:Of0 G S) (h:SHd) (V:World) (hr:Row V 1 h.na S.nm.length h.nc (strC S.nm)) (m:Nat) (hm:(lfs G.rs).length=m):Calls Tryz.prog 93 #[.agg (sC h S)] V fun e w'=>∃ ao c,e=.returned (.slice ao m c)/\Row w' 1 ao m c (strC (lfs G.rs))/\Below V.heap.size V w':=by
 have:=qek h S V hr (by rw [ho.nm,ho.tk,jj];omega)
 rw [ho.len,ho.drop,hm] at this
 exact this
theorem qm7 {G:Gm} {S:Sp} (ho:Of0 G S) (h:SHd) (V:World) (hr:Row V 1 h.na S.nm.length h.nc (strC S.nm)):Calls Tryz.prog 97 #[.agg (sC h S)] V fun e w'=>e=.returned (.slice h.na S.tk h.nc)/\Row w' 1 h.na S.tk h.nc (strC (tkG G))/\Below V.heap.size V w':=by
 have:=qej h S V hr (by rw [ho.nm,ho.tk,jj];omega)
 rw [ho.take] at this
 exact this
theorem qj9 (G:Gm) (S:Sp) (ho:Of0 G S) (hs2:G.rs.length<=200) (h:SHd) (V:World) (b3:Nat) (hx:V.heap[b3]?=some (.cells (sC h S) 31 (0,0))) (hr:Row V 1 h.na S.nm.length h.nc (strC S.nm)) (x:ByteArray) (b:Bool) (hb:b=true↔x∈lfs G.rs) :
  Calls Tryz.prog 98 #[.string x,.pointer (some ⟨b3,0,none⟩)] V fun e w'=>e=.returned (.bool b)/\Below V.heap.size V w':=by
 obtain ⟨m,hm⟩:∃ m,(lfs G.rs).length=m:=⟨_,rfl⟩
 have hm9:m<=200:=by have:=j9 G.rs;omega
 have HL:Hid (Calls Tryz.prog 93 #[.agg (sC h S)] V fun e w'=>∃ ao c,e=.returned (.slice ao m c)/\Row w' 1 ao m c (strC (lfs G.rs))/\Below V.heap.size V w'):=qh9 ho h V hr m hm
 have HC:Hid (∀ (U:World) (ao:Option Addr) (c:Nat),Row U 1 ao m c (strC (lfs G.rs))->Calls Tryz.prog 92 #[.slice ao m c,.string x] U fun e w'=>e=.returned (.bool b)/\w'=U):=fun U ao c hU=>by
  have:=yu (lfs G.rs) ao c x U (by rw [hm];exact hU) (by rw [hm];omega) b hb
  rw [hm] at this
  exact this
 obtain ⟨c0,c1,c2,c3,c4,c5,c6,c7⟩:=sbox hx
 unfold sC at HL
 clear hx hr hb hm
 go_enter Tryz.func98,Tryz.ntmps98
 go_wp2_with fail
 refine HL.out.mono ?_
 rintro e V1 ⟨ao,c,rfl,hrow,hB⟩
 have HB:Hid (Below V.heap.size V V1):=hB
 have HRW:Hid (Row V1 1 ao m c (strC (lfs G.rs))):=hrow
 clear hB hrow
 go_wp2_with fail
 refine (HC.out _ _ _ HRW.out).mono ?_
 rintro e V2 ⟨rfl,rfl⟩
 go_wp2_with fail
 go_ret
 exact ⟨rfl,HB.out⟩
theorem qfv (G:Gm) (S:Sp) (ho:Of0 G S) (hs2:G.rs.length<=200) (h:SHd) (w:World) (b3:Nat) (hx:w.heap[b3]?=some (.cells (sC h S) 31 (0,0))) (hr:Row w 1 h.na S.nm.length h.nc (strC S.nm)) (l:List ByteArray) (ao:Option Addr) (cap:Nat) (hl:Row w 1 ao l.length cap (strC l)) (hl9:l.length<=1000) :
  Calls Tryz.prog 107 #[.slice ao l.length cap,.func (.func 98) #[] #[.pointer (some ⟨b3,0,none⟩)]] w fun e w'=>∃ z:Int,e=.returned (.int .i64 z)/\(0<=z↔∃ x∈l,x∈lfs G.rs)/\Below w.heap.size w w':=by
 have hle:=ze hl
 have HC:Hid (∀ (V:World) (x:ByteArray) (b:Bool),Below w.heap.size w V->(b=true↔x∈lfs G.rs)->Calls Tryz.prog 98 #[.string x,.pointer (some ⟨b3,0,none⟩)] V fun e w'=>e=.returned (.bool b)/\Below V.heap.size V w'):=fun V x b hV hb=>qj9 G S ho hs2 h V b3 (qf hV hx) (hr.below hV) x b hb
 have HR:Hid (Row w 1 ao l.length cap (strC l)):=hl
 clear hl hx hr ho
 obtain ⟨n,HN⟩:∃ n,Hid (l.length=n):=⟨_,rfl⟩
 rw [HN.out] at hle hl9 HR ⊢
 go_enter Tryz.func107,Tryz.ntmps107
 go_wp2_with fail
 go_loopg [8] n (fun kx s8 wr=>∃ k:Nat,s8=.int .i64 k/\k<=n/\n - k<=kx/\Hid (Below w.heap.size w wr/\∀ (i:Nat) (x:ByteArray),i<k->l[i]?=some x->x ∉ lfs G.rs))
 case atStart=>exact ⟨0,rfl,Nat.zero_le _,by omega,(⟨Below.refl _ _,fun i y hi=>absurd hi (Nat.not_lt_zero _)⟩:Below w.heap.size w w/\∀ (i:Nat) (x:ByteArray),i<0->l[i]?=some x->x ∉ lfs G.rs)⟩
 case round =>
  obtain ⟨k,rfl,hk,hg,J⟩:=hrel
  by_cases hlt:k<n
  ·have hlt':(k:Int)<(n:Int):=by omega
   obtain ⟨x,hx⟩:∃ x,l[k]?=some x:=⟨l[k]'(by rw [HN.out];exact hlt),List.getElem?_eq_getElem _⟩
   obtain ⟨b,o,hao,c0⟩:=jm (HR.out.below J.out.1) hx
   subst hao
   have HX:Hid (l[k]?=some x):=hx
   clear hx
   by_cases he:x∈lfs G.rs
   ·have HC1:Hid (Calls Tryz.prog 98 #[.string x,.pointer (some ⟨b3,0,none⟩)] wr fun e w'=>e=.returned (.bool true)/\Below wr.heap.size wr w'):=HC.out wr x true J.out.1 ⟨fun _=>he,fun _=>rfl⟩
    have HF:Hid (∃ x∈l,x∈lfs G.rs):=⟨x,List.mem_of_getElem? HX.out,he⟩
    clear he
    go_wp2_with (go_at_call 98;refine HC1.out.mono ?_;rintro e w1 ⟨rfl,hB⟩)
    go_ret
    exact ⟨(k:Int),rfl,⟨fun _=>HF.out,fun _=>by omega⟩,qd J.out.1 hB⟩
   ·have HC1:Hid (Calls Tryz.prog 98 #[.string x,.pointer (some ⟨b3,0,none⟩)] wr fun e w'=>e=.returned (.bool false)/\Below wr.heap.size wr w'):=HC.out wr x false J.out.1 ⟨(fun e=>by cases e),fun e=>absurd e he⟩
    have HF:Hid (∀ (i:Nat) (x:ByteArray),i<k+1->l[i]?=some x->x ∉ lfs G.rs):=fun i q hi hq=>by
     rcases Nat.lt_or_ge i k with h | h
     ·exact J.out.2 i q h hq
     ·have:i=k:=by omega
      subst this
      rw [HX.out] at hq
      cases hq
      exact he
    clear he
    go_wp2_with (go_at_call 98;refine HC1.out.mono ?_;rintro e w1 ⟨rfl,hB⟩)
    go_roundg (n - (k+1))
    case measure=>omega
    case rel=>exact ⟨k+1,by simp,by omega,Nat.le_refl _,(⟨qd J.out.1 hB,HF.out⟩:Below w.heap.size w w1/\∀ (i:Nat) (x:ByteArray),i<k+1->l[i]?=some x->x ∉ lfs G.rs)⟩
  ·have hlt':¬ (k:Int)<(n:Int):=by omega
   have HF:Hid (¬ ∃ x∈l,x∈lfs G.rs):=by
    rintro ⟨x,hx,h6⟩
    obtain ⟨i,hi⟩:=List.getElem?_of_mem hx
    exact J.out.2 i x (by have:=(List.getElem?_eq_some_iff.1 hi).1;rw [HN.out] at this;omega) hi h6
   go_wp2_with fail
   go_ret
   exact ⟨-1,rfl,⟨fun h=>by omega,fun h=>absurd h HF.out⟩,J.out.1⟩
theorem qho (G:Gm) (S:Sp) (ho:Of0 G S) (hs2:G.rs.length<=200) (h:SHd) (w:World) (b3:Nat) (hx:w.heap[b3]?=some (.cells (sC h S) 31 (0,0))) (hr:Row w 1 h.na S.nm.length h.nc (strC S.nm)) (l:List ByteArray) (ao:Option Addr) (n cap:Nat) (hn:l.length=n) (hl:Row w 1 ao n cap (strC l)) (hl9:n<=1000) (b:Bool) (hb:b=true↔∃ x∈l,x∈lfs G.rs) :
  Calls Tryz.prog 96 #[.slice ao n cap,.func (.func 98) #[] #[.pointer (some ⟨b3,0,none⟩)]] w fun e w'=>e=.returned (.bool b)/\Below w.heap.size w w':=by
 subst hn
 have HC:Hid (Calls Tryz.prog 107 #[.slice ao l.length cap,.func (.func 98) #[] #[.pointer (some ⟨b3,0,none⟩)]] w fun e w'=>∃ z:Int,e=.returned (.int .i64 z)/\(0<=z↔∃ x∈l,x∈lfs G.rs)/\Below w.heap.size w w'):=qfv G S ho hs2 h w b3 hx hr l ao cap hl hl9
 have HB:Hid (b=true↔∃ x∈l,x∈lfs G.rs):=hb
 clear hr hb hx hl ho
 go_enter Tryz.func96,Tryz.ntmps96
 go_wp2_with fail
 refine HC.out.mono ?_
 rintro e w1 ⟨z,rfl,hz,hB⟩
 have HE:Hid (b=true↔0<=z):=HB.out.trans hz.symm
 have HW:Hid (Below w.heap.size w w1):=hB
 clear hz hB HB HC
 cases b
 ·have hz:¬ 0<=z:=fun h=>by have:=HE.out.2 h;cases this
  go_wp2_with fail
  go_ret
  exact ⟨by simp [hz],HW.out⟩
 ·have hz:0<=z:=HE.out.1 rfl
  go_wp2_with fail
  go_ret
  exact ⟨by simp,HW.out⟩
def NmR (G:Gm) (r:Ru):Prop:=(r.p=e0\/r.p∈tkG G)/\∀ x∈r.r,x∈tkG G\/x∈lfs G.rs
theorem ql9 {G:Gm}:NmP G↔(G.rs≠[]/\(¬ ∃ x∈tkG G,x∈lfs G.rs)/\(∀ r∈G.rs,NmR G r)/\kc G∈lfs G.rs):=by
 constructor
 ·intro h
  refine ⟨h.ne,?_,fun r hr=>⟨h.pr r hr,h.rr r hr⟩,h.st⟩
  rintro ⟨x,hx,hl⟩
  unfold tkG at hx
  obtain ⟨t,ht,rfl⟩:=List.mem_map.1 hx
  exact h.tk t ht hl
 ·rintro ⟨h1,h2,h3,h4⟩
  exact ⟨h1,fun t ht hl=>h2 ⟨t.n,by unfold tkG;exact List.mem_map.2 ⟨t,ht,rfl⟩,hl⟩,fun r hr=>(h3 r hr).1,fun r hr=>(h3 r hr).2,h4⟩
theorem qss {G:Gm} (hm:MayP G) {r:Ru} (hr:r∈G.rs) {x:ByteArray} (hx:x∈r.r):x∈nmG G↔(x∈tkG G\/x∈lfs G.rs):=by
 constructor
 ·intro h
  unfold nmG at h
  rcases List.mem_append.1 h with h | h
  ·exact .inl h
  ·rcases List.mem_cons.1 h with h | h
   ·exact absurd h (qrl hm hr hx)
   ·exact .inr h
 ·exact qbt
theorem qli (G:Gm) (hd:Hd) (S:Sp) (h:SHd) (w:World) (hG:IsG w hd G) (hsp:IsSp w h S) (ho:Of0 G S) (hm:MayP G) (b:Bool) (hb:b=true↔NmP G) :
  Calls Tryz.prog 83 #[gv hd G,.agg (sC h S)] w fun e w'=>e=.returned (.bool b)/\Below w.heap.size w w':=by
 have hs1:G.ts.length<=100:=hG.small.nt
 have hs2:G.rs.length<=200:=hG.small.nr
 have hm2:=kj hG.rul
 obtain ⟨m,hm0⟩:∃ m,(lfs G.rs).length=m:=⟨_,rfl⟩
 have hm9:m<=200:=by have:=j9 G.rs;omega
 have hnl:S.nm.length<=400:=by rw [ho.nm,jj];have:=j9 G.rs;omega
 have HP:Hid (b=true↔(G.rs≠[]/\(¬ ∃ x∈tkG G,x∈lfs G.rs)/\(∀ r∈G.rs,NmR G r)/\kc G∈lfs G.rs)):=hb.trans ql9
 have HG:Hid (IsG w hd G/\IsSp w h S/\Of0 G S/\MayP G):=⟨hG,hsp,ho,hm⟩
 have HTK:Hid (∀ V:World,Below w.heap.size w V->Calls Tryz.prog 97 #[.agg (sC h S)] V fun e w'=>e=.returned (.slice h.na S.tk h.nc)/\Row w' 1 h.na S.tk h.nc (strC (tkG G))/\Below V.heap.size V w'):=fun V hV=>qm7 ho h V (hsp.below hV).nm
 have HLF:Hid (∀ V:World,Below w.heap.size w V->Calls Tryz.prog 93 #[.agg (sC h S)] V fun e w'=>∃ ao c,e=.returned (.slice ao m c)/\Row w' 1 ao m c (strC (lfs G.rs))/\Below V.heap.size V w'):=fun V hV=>qh9 ho h V (hsp.below hV).nm m hm0
 have HST:Hid (∀ V:World,Below w.heap.size w V->G.rs≠[]->Calls Tryz.prog 85 #[gv hd G] V fun e w'=>e=.returned (.string (kc G))/\Below V.heap.size V w'):=fun V hV hne=>qdw G hd V (hG.below hV) hne
 obtain ⟨bt,hbt⟩:=zr (∃ x∈tkG G,x∈lfs G.rs)
 have HBT:Hid (bt=true↔∃ x∈tkG G,x∈lfs G.rs):=hbt
 have htk:(tkG G).length=S.tk:=by rw [ho.tk];unfold tkG;simp
 have HAN:Hid (∀ (V:World) (b3:Nat),Below w.heap.size w V->V.heap[b3]?=some (.cells (sC h S) 31 (0,0))->Row V 1 h.na S.tk h.nc (strC (tkG G))->Calls Tryz.prog 96 #[.slice h.na S.tk h.nc,.func (.func 98) #[] #[.pointer (some ⟨b3,0,none⟩)]] V fun e w'=>e=.returned (.bool bt)/\Below V.heap.size V w'):=fun V b3 hV hx hrow=>qho G S ho hs2 h V b3 hx (hsp.below hV).nm (tkG G) h.na S.tk h.nc htk hrow (by rw [ho.tk];omega) bt hbt
 have HCT:Hid (∀ (V:World) (x:ByteArray) (bx:Bool),Row V 1 h.na S.tk h.nc (strC (tkG G))->(bx=true↔x∈tkG G)->Calls Tryz.prog 92 #[.slice h.na S.tk h.nc,.string x] V fun e w'=>e=.returned (.bool bx)/\w'=V):=fun V x bx hrow hbx=>by
  have:=yu (tkG G) h.na h.nc x V (by rw [htk];exact hrow) (by rw [htk,ho.tk];omega) bx hbx
  rw [htk] at this
  exact this
 have HCN:Hid (∀ (V:World) (x:ByteArray) (bx:Bool),Below w.heap.size w V->(bx=true↔x∈nmG G)->Calls Tryz.prog 92 #[.slice h.na S.nm.length h.nc,.string x] V fun e w'=>e=.returned (.bool bx)/\w'=V):=fun V x bx hV hbx=>yu S.nm h.na h.nc x V (hsp.below hV).nm (by omega) bx (by rw [ho.nm];exact hbx)
 have HCL:Hid (∀ (V:World) (ao:Option Addr) (c:Nat) (x:ByteArray) (bx:Bool),Row V 1 ao m c (strC (lfs G.rs))->(bx=true↔x∈lfs G.rs)->Calls Tryz.prog 92 #[.slice ao m c,.string x] V fun e w'=>e=.returned (.bool bx)/\w'=V):=fun V ao c x bx hrow hbx=>by
  have:=yu (lfs G.rs) ao c x V (by rw [hm0];exact hrow) (by rw [hm0];omega) bx hbx
  rw [hm0] at this
  exact this
 have hqs:=ze hsp.nm
 obtain ⟨ta,tc,ra,rc⟩:=hd
 simp only at hm2
 clear hG hsp ho hm hb hbt htk hm0
 unfold gv at HST ⊢
 simp only at HST ⊢
 have hB:Below w.heap.size w ((w.alloc (.cells #[.slice ta G.ts.length tc,.string G.s,.int .i64 G.e,.slice ra G.rs.length rc] 25)).alloc (.cells (sC h S) 31)):=qd (qb _ _) (qb _ _)
 have hb0:((w.alloc (.cells #[.slice ta G.ts.length tc,.string G.s,.int .i64 G.e,.slice ra G.rs.length rc] 25)).alloc (.cells (sC h S) 31)).heap[w.heap.size]?=some (.cells #[.slice ta G.ts.length tc,.string G.s,.int .i64 G.e,.slice ra G.rs.length rc] 25 (0,0)):=qf (qb _ _) (heap_alloc_new _ _)
 have hb1:((w.alloc (.cells #[.slice ta G.ts.length tc,.string G.s,.int .i64 G.e,.slice ra G.rs.length rc] 25)).alloc (.cells (sC h S) 31)).heap[w.heap.size+1]?=some (.cells (sC h S) 31 (0,0)):=by
  have:=heap_alloc_new (w.alloc (.cells #[.slice ta G.ts.length tc,.string G.s,.int .i64 G.e,.slice ra G.rs.length rc] 25)) (.cells (sC h S) 31)
  rwa [qt] at this
 obtain ⟨rn,HRN⟩:∃ rn,Hid (G.rs.length=rn):=⟨_,rfl⟩
 obtain ⟨tn,HTN⟩:∃ tn,Hid (G.ts.length=tn):=⟨_,rfl⟩
 rw [HRN.out] at hs2 hm2 hB hb0 hb1 HST ⊢
 rw [HTN.out] at hs1 hB hb0 hb1 HST ⊢
 obtain ⟨s3,hs3⟩:∃ s3,sC h S=s3:=⟨_,rfl⟩
 have hs3':=hs3
 unfold sC at hs3'
 subst hs3'
 rw [hs3] at HTK HLF HAN hB hb0 hb1 ⊢
 clear hs3
 go_enter Tryz.func83,Tryz.ntmps83
 go_upto_region 1 with fail
 generalize (w.alloc (.cells #[.slice ta tn tc,.string G.s,.int .i64 G.e,.slice ra rn rc] 25)).alloc (.cells #[.int .i64 (S.tk:Int),.int .i64 (S.nt:Int),.int .i64 (S.st:Int),.int .i64 S.ex,.slice h.na S.nm.length h.nc,.slice h.la S.lv.length h.lc,.slice h.aa S.az.length h.ac,.slice h.ra S.rs.length h.rc] 31)=W1 at hB hb0 hb1 ⊢
 obtain ⟨b2,HB2⟩:∃ b2,Hid (b2=w.heap.size):=⟨_,rfl⟩
 rw [<-HB2.out] at hb0 hb1 ⊢
 generalize b2+1=b3 at *
 have HW:Hid (∀ V:World,Below W1.heap.size W1 V->Below w.heap.size w V/\V.heap[b2]?=some (.cells #[.slice ta tn tc,.string G.s,.int .i64 G.e,.slice ra rn rc] 25 (0,0))/\V.heap[b3]?=some (.cells #[.int .i64 (S.tk:Int),.int .i64 (S.nt:Int),.int .i64 (S.st:Int),.int .i64 S.ex,.slice h.na S.nm.length h.nc,.slice h.la S.lv.length h.lc,.slice h.aa S.az.length h.ac,.slice h.ra S.rs.length h.rc] 31 (0,0))):=fun V hV=>⟨qd hB hV,qf hV hb0,qf hV hb1⟩
 have CC:Hid (∀ V:World,Below W1.heap.size W1 V->V.cell? ⟨b3,0,none⟩=some (.int .i64 (S.tk:Int))/\V.cell? ⟨b3,1,none⟩=some (.int .i64 (S.nt:Int))/\V.cell? ⟨b3,2,none⟩=some (.int .i64 (S.st:Int))/\V.cell? ⟨b3,3,none⟩=some (.int .i64 S.ex)/\V.cell? ⟨b3,4,none⟩=some (.slice h.na S.nm.length h.nc)/\V.cell? ⟨b3,5,none⟩=some (.slice h.la S.lv.length h.lc)/\V.cell? ⟨b3,6,none⟩=some (.slice h.aa S.az.length h.ac)/\V.cell? ⟨b3,7,none⟩=some (.slice h.ra S.rs.length h.rc)):=fun V hV=>sbox (HW.out V hV).2.2
 have p3:W1.cell? ⟨b2,3,none⟩=some (.slice ra rn rc):=by rw [qe hb0];rfl
 clear hB hb0 hb1 HB2
 by_cases hr0:rn=0
 ·have HF:Hid (b=false):=by
   cases b
   ·rfl
   ·exact absurd (List.eq_nil_of_length_eq_zero (by rw [HRN.out];exact hr0)) (HP.out.1 rfl).1
  have hr0':((rn:Int) == 0)=true:=by simp;exact hr0
  clear hr0
  go_wp2_with fail
  go_ret
  exact ⟨by rw [HF.out];rfl,(HW.out _ (Below.refl _ _)).1⟩
 have hr0':((rn:Int) == 0)=false:=by simp;exact hr0
 have HNE:Hid (G.rs≠[]):=fun e=>hr0 (by rw [<-HRN.out,e];rfl)
 obtain ⟨c0,c1,c2,c3,c4,c5,c6,c7⟩:=CC.out W1 (Below.refl _ _)
 go_wp2_with fail
 refine (HTK.out _ (HW.out _ (Below.refl _ _)).1).mono ?_
 rintro e V1 ⟨rfl,hrow,hB1⟩
 have HV1:Hid (Below W1.heap.size W1 V1/\Row V1 1 h.na S.tk h.nc (strC (tkG G))):=⟨hB1,hrow⟩
 clear hB1 hrow c0 c1 c2 c3 c4 c5 c6 c7 p3
 go_wp2_with fail
 refine (HAN.out _ b3 (HW.out _ HV1.out.1).1 (HW.out _ HV1.out.1).2.2 HV1.out.2).mono ?_
 rintro e V2 ⟨rfl,hB2⟩
 have HV2:Hid (Below W1.heap.size W1 V2):=qd HV1.out.1 hB2
 clear hB2 HV1 HAN
 cases bt
 rotate_left
 ·have HF:Hid (b=false):=by
   cases b
   ·rfl
   ·exact absurd (HBT.out.1 rfl) (HP.out.1 rfl).2.1
  go_wp2_with fail
  go_ret
  exact ⟨by rw [HF.out];rfl,(HW.out _ HV2.out).1⟩
 have HNT:Hid (¬ ∃ x∈tkG G,x∈lfs G.rs):=fun e=>by have:=HBT.out.2 e;cases this
 have p3:V2.cell? ⟨b2,3,none⟩=some (.slice ra rn rc):=by rw [qe (HW.out _ HV2.out).2.1];rfl
 clear HBT
 go_wp2_with fail
 clear p3
 go_loopg [22] rn (fun kx s22 wr=>∃ k:Nat,s22=.int .i64 k/\k<=rn/\rn - k<=kx/\Hid (Below W1.heap.size W1 wr/\∀ (i:Nat) (r:Ru),i<k->G.rs[i]?=some r->NmR G r))
 case atStart=>exact ⟨0,rfl,Nat.zero_le _,by omega,(⟨HV2.out,fun i r hi=>absurd hi (Nat.not_lt_zero _)⟩:Below W1.heap.size W1 V2/\∀ (i:Nat) (r:Ru),i<0->G.rs[i]?=some r->NmR G r)⟩
 case round =>
  clear HV2
  obtain ⟨k,rfl,hk,hg,J⟩:=hrel
  by_cases hlt:k<rn
  ·have hlt':(k:Int)<(rn:Int):=by omega
   obtain ⟨r,hr⟩:∃ r,G.rs[k]?=some r:=⟨G.rs[k]'(by rw [HRN.out];exact hlt),List.getElem?_eq_getElem _⟩
   obtain ⟨bb,o,ya,yc,hra,d0,d1,d2,hrow⟩:=(HG.out.1.rul.below (HW.out _ J.out.1).1).at hr
   simp only at hra
   subst hra
   have hrl:r.r.length<=20:=(HG.out.2.2.2.rl r (List.mem_of_getElem? hr)).2.1
   have hyl:=ze hrow
   have hv:Below wr.heap.size wr (wr.alloc (.cells #[.string r.l,.slice ya r.r.length yc,.string r.p] 55)):=qb _ _
   have HV:Hid (Below W1.heap.size W1 (wr.alloc (.cells #[.string r.l,.slice ya r.r.length yc,.string r.p] 55))/\(wr.alloc (.cells #[.string r.l,.slice ya r.r.length yc,.string r.p] 55)).heap[wr.heap.size]?=some (.cells #[.string r.l,.slice ya r.r.length yc,.string r.p] 55 (0,0))/\Row (wr.alloc (.cells #[.string r.l,.slice ya r.r.length yc,.string r.p] 55)) 1 ya r.r.length yc (strC r.r)/\G.rs[k]?=some r/\∀ (i:Nat) (r:Ru),i<k->G.rs[i]?=some r->NmR G r):=⟨qd J.out.1 hv,heap_alloc_new _ _,hrow.below hv,hr,J.out.2⟩
   clear J hr hv hrow
   obtain ⟨rl,HRL⟩:∃ rl,Hid (r.r.length=rl):=⟨_,rfl⟩
   rw [HRL.out] at HV d1 hrl hyl
   go_upto_region 6 with fail
   obtain ⟨b7,HB7⟩:∃ b7,Hid (b7=wr.heap.size):=⟨_,rfl⟩
   rw [<-HB7.out] at HV ⊢
   generalize wr.alloc (.cells #[.string r.l,.slice ya rl yc,.string r.p] 55)=V at HV ⊢
   clear HB7 d0 d1 d2
   obtain ⟨bp,hbp⟩:=zr (¬ (r.p=e0\/r.p∈tkG G))
   have HBP:Hid (bp=true↔¬ (r.p=e0\/r.p∈tkG G)):=hbp
   clear hbp
   have q2:V.cell? ⟨b7,2,none⟩=some (.string r.p):=by rw [qe HV.out.2.1];rfl
   obtain ⟨c0,c1,c2,c3,c4,c5,c6,c7⟩:=CC.out V HV.out.1
   go_cut [22,36] from 22 to 50 (fun s22 s36 wd=>s22=.int .i64 (k:Int)/\s36=.bool bp/\Hid (Below V.heap.size V wd))
   case first =>
    by_cases hp:r.p=e0
    ·have hb0:=(zo r.p).2 hp
     have HF:Hid (bp=false):=zb HBP.out (fun h=>h (.inl hp))
     have HD:Hid (∀ q,Below V.heap.size V (V.drewN q)):=fun q=>yh (Below.refl _ _) q
     have mx:=qay
     clear hp
     go_quiet (fail)
     go_wp2_with fail
     go_meet
     exact ⟨rfl,by rw [HF.out],HD.out _⟩
    ·have hb0:(r.p.toList == [])=false:=by
      cases hq:(r.p.toList == [])
      ·rfl
      ·exact absurd ((zo r.p).1 hq) hp
     obtain ⟨bx,hbx⟩:=zr (r.p∈tkG G)
     have HBX:Hid (bx=true↔r.p∈tkG G):=hbx
     have HF:Hid (bp=!bx):=by
      show _=_
      cases bx
      ·exact HBP.out.2 (fun e=>by rcases e with e | e;exact hp e;have:=hbx.2 e;cases this)
      ·exact zb HBP.out (fun e=>e (.inr (hbx.1 rfl)))
     clear hp hbx
     go_region_with (first | (go_at_call 97;refine (HTK.out _ (HW.out _ (qd HV.out.1 (qk _))).1).mono ?_;rintro e V1 ⟨rfl,hrow,hB⟩;have z2:V1.cell? ⟨b7,2,none⟩=some (.string r.p):=qj hB q2) | (go_at_call 92;refine (HCT.out _ r.p bx hrow HBX.out).mono ?_;rintro e V2 ⟨rfl,rfl⟩))
     all_goals
      have HE:Hid (Below V.heap.size V _):=qd (qk V) hB
      clear hB hrow z2
      go_wp2_with fail
      go_meet
      exact ⟨rfl,by rw [HF.out],HE⟩
   case rest =>
    obtain ⟨rfl,rfl,HE⟩:=hcut
    obtain ⟨V3,hV3⟩:∃ V3,V3=wc:=⟨_,rfl⟩
    subst wc
    clear c0 c1 c2 c3 c4 c5 c6 c7 q2
    have HV3:Hid (Below W1.heap.size W1 V3/\Row V3 1 ya rl yc (strC r.r)):=⟨qd HV.out.1 HE.out,HV.out.2.2.1.below HE.out⟩
    cases bp
    rotate_left
    ·have HF:Hid (b=false):=by
      cases b
      ·rfl
      ·exact absurd ((HP.out.1 rfl).2.2.1 r (List.mem_of_getElem? HV.out.2.2.2.1)).1 (HBP.out.1 rfl)
     go_wp2_with fail
     go_ret
     exact ⟨by rw [HF.out];rfl,(HW.out _ HV3.out.1).1⟩
    have HPR:Hid (r.p=e0\/r.p∈tkG G):=by
     rcases Classical.em (r.p=e0\/r.p∈tkG G) with e | e
     ·exact e
     ·have:=HBP.out.2 e;cases this
    have q1:V3.cell? ⟨b7,1,none⟩=some (.slice ya rl yc):=by rw [qe (qf HE.out HV.out.2.1)];rfl
    have HRK:Hid (G.rs[k]?=some r/\∀ (i:Nat) (r:Ru),i<k->G.rs[i]?=some r->NmR G r):=HV.out.2.2.2
    clear HBP HE HV
    go_wp2_with fail
    clear q1
    go_loopg [40] rl (fun kx s40 wr=>∃ k2:Nat,s40=.int .i64 k2/\k2<=rl/\rl - k2<=kx/\Hid (wr=V3/\∀ (i:Nat) (x:ByteArray),i<k2->r.r[i]?=some x->x∈tkG G\/x∈lfs G.rs))
    case atStart=>exact ⟨0,rfl,Nat.zero_le _,by omega,(⟨rfl,fun i x hi=>absurd hi (Nat.not_lt_zero _)⟩:V3=V3/\∀ (i:Nat) (x:ByteArray),i<0->r.r[i]?=some x->x∈tkG G\/x∈lfs G.rs)⟩
    case round =>
     obtain ⟨k2,rfl,hk2,hg2,K⟩:=hrel
     obtain ⟨hwr,hK⟩:=K.out
     subst hwr
     have HK:Hid (∀ (i:Nat) (x:ByteArray),i<k2->r.r[i]?=some x->x∈tkG G\/x∈lfs G.rs):=hK
     clear K hK
     by_cases hlt2:k2<rl
     ·have hlt2':(k2:Int)<(rl:Int):=by omega
      obtain ⟨x,hx⟩:∃ x,r.r[k2]?=some x:=⟨r.r[k2]'(by rw [HRL.out];exact hlt2),List.getElem?_eq_getElem _⟩
      obtain ⟨b9,o9,hya,q0⟩:=jm HV3.out.2 hx
      subst hya
      obtain ⟨-,-,-,-,c4,-,-,-⟩:=CC.out wr HV3.out.1
      obtain ⟨bx,hbx⟩:=zr (x∈nmG G)
      have HBX:Hid (bx=true↔(x∈tkG G\/x∈lfs G.rs)):=hbx.trans (qss HG.out.2.2.2 (List.mem_of_getElem? HRK.out.1) (List.mem_of_getElem? hx))
      have HC1:Hid (Calls Tryz.prog 92 #[.slice h.na S.nm.length h.nc,.string x] wr fun e w'=>e=.returned (.bool bx)/\w'=wr):=HCN.out wr x bx (HW.out _ HV3.out.1).1 hbx
      have HXX:Hid (r.r[k2]?=some x):=hx
      clear hbx hx
      go_wp2_with fail
      refine HC1.out.mono ?_
      rintro e V4 ⟨rfl,rfl⟩
      cases bx
      ·have HF:Hid (b=false):=by
        cases b
        ·rfl
        ·have:=HBX.out.2 (((HP.out.1 rfl).2.2.1 r (List.mem_of_getElem? HRK.out.1)).2 x (List.mem_of_getElem? HXX.out))
         cases this
       go_wp2_with fail
       go_ret
       exact ⟨by rw [HF.out];rfl,(HW.out _ HV3.out.1).1⟩
      ·have HF:Hid (∀ (i:Nat) (x:ByteArray),i<k2+1->r.r[i]?=some x->x∈tkG G\/x∈lfs G.rs):=fun i y hi hy=>by
        rcases Nat.lt_or_ge i k2 with h1 | h1
        ·exact HK.out i y h1 hy
        ·have:i=k2:=by omega
         subst this
         rw [HXX.out] at hy
         cases hy
         exact HBX.out.1 rfl
       go_wp2_with fail
       go_roundg (rl - (k2+1))
       case measure=>omega
       case rel=>exact ⟨k2+1,by simp,by omega,Nat.le_refl _,(⟨rfl,HF.out⟩:V4=V4/\∀ (i:Nat) (x:ByteArray),i<k2+1->r.r[i]?=some x->x∈tkG G\/x∈lfs G.rs)⟩
     ·have hlt2':¬ (k2:Int)<(rl:Int):=by omega
      have HF:Hid (Below W1.heap.size W1 wr/\∀ (i:Nat) (r:Ru),i<k+1->G.rs[i]?=some r->NmR G r):=by
       refine ⟨HV3.out.1,fun i q hi hq=>?_⟩
       rcases Nat.lt_or_ge i k with h1 | h1
       ·exact HRK.out.2 i q h1 hq
       ·have:i=k:=by omega
        subst this
        rw [HRK.out.1] at hq
        cases hq
        refine ⟨HPR.out,fun x hx=>?_⟩
        obtain ⟨j,hj⟩:=List.getElem?_of_mem hx
        exact HK.out j x (by have:=(List.getElem?_eq_some_iff.1 hj).1;rw [HRL.out] at this;omega) hj
      go_wp2_with fail
      go_roundg (rn - (k+1))
      case measure=>omega
      case rel=>exact ⟨k+1,by simp,by omega,Nat.le_refl _,HF⟩
  ·have hlt':¬ (k:Int)<(rn:Int):=by omega
   obtain ⟨bs,hbs⟩:=zr (kc G∈lfs G.rs)
   have HBS:Hid (bs=true↔kc G∈lfs G.rs):=hbs
   have HF:Hid (b=bs):=by
    have hall:∀ r∈G.rs,NmR G r:=fun r hr=>by
     obtain ⟨i,hi⟩:=List.getElem?_of_mem hr
     exact J.out.2 i r (by have:=(List.getElem?_eq_some_iff.1 hi).1;rw [HRN.out] at this;omega) hi
    cases bs
    ·exact zb HP.out (fun e=>by have:=hbs.2 e.2.2.2;cases this)
    ·exact HP.out.2 ⟨HNE.out,HNT.out,hall,hbs.1 rfl⟩
   have HB:Hid (Below W1.heap.size W1 wr):=J.out.1
   clear J hbs HP
   have GC:Hid (∀ V:World,Below W1.heap.size W1 V->V.cell? ⟨b2,0,none⟩=some (.slice ta tn tc)/\V.cell? ⟨b2,1,none⟩=some (.string G.s)/\V.cell? ⟨b2,2,none⟩=some (.int .i64 G.e)/\V.cell? ⟨b2,3,none⟩=some (.slice ra rn rc)):=fun V hV=>by
    obtain ⟨z0,z1,z2,z3,-⟩:=qdk (HW.out V hV).2.1
    exact ⟨z0,z1,z2,z3⟩
   obtain ⟨c0,c1,c2,c3,c4,c5,c6,c7⟩:=CC.out wr HB.out
   obtain ⟨g0,g1,g2,g3⟩:=GC.out wr HB.out
   go_upto_region 15 with fail
   go_region_with (first
    | (go_at_call 93;refine (HLF.out _ (by first | exact (HW.out _ (qd HB.out (qk _))).1 | exact (HW.out _ (qd (qd HB.out (qk _)) hBS)).1)).mono ?_;rintro e VL ⟨ao,c,rfl,hrow,hBL⟩;obtain ⟨k0,k1,k2,k3⟩:=GC.out VL (by first | exact qd (qd HB.out (qk _)) hBL | exact qd (qd (qd HB.out (qk _)) hBS) hBL))
    | (go_at_call 85;refine (HST.out _ (by first | exact (HW.out _ (qd HB.out (qk _))).1 | exact (HW.out _ (qd (qd HB.out (qk _)) hBL)).1) HNE.out).mono ?_;rintro e VS ⟨rfl,hBS⟩;obtain ⟨y0,y1,y2,y3,y4,y5,y6,y7⟩:=CC.out VS (by first | exact qd (qd HB.out (qk _)) hBS | exact qd (qd (qd HB.out (qk _)) hBL) hBS))
    | (go_at_call 92;refine (HCL.out _ ao c (kc G) bs (by first | exact hrow | exact hrow.below hBS) HBS.out).mono ?_;rintro e V9 ⟨rfl,rfl⟩))
   all_goals first
    | (have HE:Hid (Below w.heap.size w _):=(HW.out _ (qd (qd (qd HB.out (qk _)) hBL) hBS)).1
       go_wp2_with fail
       go_ret
       exact ⟨by rw [HF.out];rfl,HE.out⟩)
    | (have HE:Hid (Below w.heap.size w _):=(HW.out _ (qd (qd (qd HB.out (qk _)) hBS) hBL)).1
       go_wp2_with fail
       go_ret
       exact ⟨by rw [HF.out];rfl,HE.out⟩)
theorem qc3 {w:World} {base fb n x:Nat} {fd:List Bool} (h:w.ownsRow base 4 1 (.slice (some ⟨fb,0,none⟩) n n) n (booC fd)) (hl:fd.length=n) (hx:x<n):w.cell? ⟨fb,x,none⟩=some (.bool (isF fd x)):=by
 rw [h.cellAt x (by omega)]
 unfold booC
 rw [List.getElem?_map,vm (by omega)]
 rfl
theorem qav {P:Nat->Prop} {fd:List Bool} (h:ko P fd) {x:Nat} (hx:x<fd.length):isF fd x=true↔P x:=h x (isF fd x) (vm hx)
theorem qi4 (w:World) (h:SHd) (S:Sp) (hwf:WF S) (hsp:IsSp w h S) (b:Bool) (hb:b=true↔yd S):Calls Tryz.prog 87 #[sv h S] w fun e w'=>e=.returned (.bool b)/\Below w.heap.size w w':=by
 obtain ⟨n,hnn⟩:∃ n,n=S.tk+1+S.nt:=⟨_,rfl⟩
 have hn:n<=1000:=by have:=hwf.tk;have:=hwf.nt;omega
 have HYC:Hid (∀ V:World,Below w.heap.size w V->Calls Tryz.prog 61 #[.agg (sC h S)] V fun e w'=>BRes V w' n (Der S) e):=fun V hV=>qb6 V h S n hnn hwf (hsp.below hV)
 have HRC:Hid (∀ V:World,Below w.heap.size w V->Calls Tryz.prog 43 #[.agg (sC h S)] V fun e w'=>BRes V w' n (Rch S) e):=fun V hV=>qiz V h S n hnn hwf (hsp.below hV)
 have HP:Hid (b=true↔yd S):=hb
 have hB0:Below w.heap.size w (w.alloc (.cells (sC h S) 31)):=qb _ _
 have hs0:(w.alloc (.cells (sC h S) 31)).heap[w.heap.size]?=some (.cells (sC h S) 31 (0,0)):=heap_alloc_new _ _
 have hnm:S.nm.length=n:=by rw [hnn];exact hwf.nm
 have htk:S.tk<=100:=hwf.tk
 have hle:=ze hsp.nm
 rw [hnm] at hle
 have HN:Hid (n=S.tk+1+S.nt):=hnn
 clear hwf hsp hb hnn
 unfold sv sC
 unfold sC at HYC HRC
 rw [hnm] at HYC HRC ⊢
 go_enter Tryz.func87,Tryz.ntmps87
 go_upto_region 1 with fail
 have e0:w.alloc (.cells #[.int .i64 (S.tk:Int),.int .i64 (S.nt:Int),.int .i64 (S.st:Int),.int .i64 S.ex,.slice h.na n h.nc,.slice h.la S.lv.length h.lc,.slice h.aa S.az.length h.ac,.slice h.ra S.rs.length h.rc] 31)=w.alloc (.cells (sC h S) 31):=by unfold sC;rw [hnm]
 rw [e0]
 generalize w.alloc (.cells (sC h S) 31)=W0 at hB0 hs0 ⊢
 obtain ⟨b1,HB1⟩:∃ b1,Hid (b1=w.heap.size):=⟨_,rfl⟩
 rw [<-HB1.out] at hs0 ⊢
 have HW0:Hid (Below w.heap.size w W0/\W0.heap[b1]?=some (.cells (sC h S) 31 (0,0))):=⟨hB0,hs0⟩
 have CC:Hid (∀ V:World,V.heap[b1]?=some (.cells (sC h S) 31 (0,0))->V.cell? ⟨b1,0,none⟩=some (.int .i64 (S.tk:Int))/\V.cell? ⟨b1,1,none⟩=some (.int .i64 (S.nt:Int))/\V.cell? ⟨b1,2,none⟩=some (.int .i64 (S.st:Int))/\V.cell? ⟨b1,3,none⟩=some (.int .i64 S.ex)/\V.cell? ⟨b1,4,none⟩=some (.slice h.na n h.nc)/\V.cell? ⟨b1,5,none⟩=some (.slice h.la S.lv.length h.lc)/\V.cell? ⟨b1,6,none⟩=some (.slice h.aa S.az.length h.ac)/\V.cell? ⟨b1,7,none⟩=some (.slice h.ra S.rs.length h.rc)):=fun V hV=>by
  have:=sbox hV
  rw [hnm] at this
  exact this
 obtain ⟨c0,c1,c2,c3,c4,c5,c6,c7⟩:=CC.out W0 hs0
 clear e0 hB0 hs0 HB1
 go_cut [3,4] (fun s3 s4 wd=>∃ f1 f2:Nat,s3=.slice (some ⟨f1,0,none⟩) n n/\s4=.slice (some ⟨f2,0,none⟩) n n/\Hid (∃ d1 d2:List Bool,d1.length=n/\d2.length=n/\ko (Der S) d1/\ko (Rch S) d2/\wd.ownsRow 0 4 1 (.slice (some ⟨f1,0,none⟩) n n) n (booC d1)/\wd.ownsRow 0 4 1 (.slice (some ⟨f2,0,none⟩) n n) n (booC d2)/\Below w.heap.size w wd/\wd.heap[b1]?=some (.cells (sC h S) 31 (0,0))))
 case first =>
  go_region_with (first
   | (go_at_call 61;refine (HYC.out _ (by first | exact qd HW0.out.1 (qk _) | exact qd (qd HW0.out.1 (qk _)) hBR)).mono ?_;rintro e VY ⟨fy,dy,rfl,ly,oy,ty,hBY⟩;obtain ⟨y0,y1,y2,y3,y4,y5,y6,y7⟩:=CC.out VY (qf hBY (by first | exact HW0.out.2 | exact qf hBR HW0.out.2)))
   | (go_at_call 43;refine (HRC.out _ (by first | exact qd HW0.out.1 (qk _) | exact qd (qd HW0.out.1 (qk _)) hBY)).mono ?_;rintro e VR ⟨fr,dr,rfl,lr,or_,tr,hBR⟩;obtain ⟨x0,x1,x2,x3,x4,x5,x6,x7⟩:=CC.out VR (qf hBR (by first | exact HW0.out.2 | exact qf hBY HW0.out.2))))
  all_goals first
   | (have HF:Hid (∃ d1 d2:List Bool,d1.length=n/\d2.length=n/\ko (Der S) d1/\ko (Rch S) d2/\VR.ownsRow 0 4 1 (.slice (some ⟨fy,0,none⟩) n n) n (booC d1)/\VR.ownsRow 0 4 1 (.slice (some ⟨fr,0,none⟩) n n) n (booC d2)/\Below w.heap.size w VR/\VR.heap[b1]?=some (.cells (sC h S) 31 (0,0))):=⟨dy,dr,ly,lr,ty,tr,zw (zd oy (Nat.zero_le _)) hBR,zd or_ (Nat.zero_le _),qd (qd (qd HW0.out.1 (qk _)) hBY) hBR,qf hBR (qf hBY HW0.out.2)⟩
      clear y0 y1 y2 y3 y4 y5 y6 y7 x0 x1 x2 x3 x4 x5 x6 x7 oy or_ ly lr ty tr hBY hBR
      go_wp2_with fail
      go_meet
      exact ⟨fy,fr,rfl,rfl,HF⟩)
   | (have HF:Hid (∃ d1 d2:List Bool,d1.length=n/\d2.length=n/\ko (Der S) d1/\ko (Rch S) d2/\VY.ownsRow 0 4 1 (.slice (some ⟨fy,0,none⟩) n n) n (booC d1)/\VY.ownsRow 0 4 1 (.slice (some ⟨fr,0,none⟩) n n) n (booC d2)/\Below w.heap.size w VY/\VY.heap[b1]?=some (.cells (sC h S) 31 (0,0))):=⟨dy,dr,ly,lr,ty,tr,zd oy (Nat.zero_le _),zw (zd or_ (Nat.zero_le _)) hBY,qd (qd (qd HW0.out.1 (qk _)) hBR) hBY,qf hBY (qf hBR HW0.out.2)⟩
      clear y0 y1 y2 y3 y4 y5 y6 y7 x0 x1 x2 x3 x4 x5 x6 x7 oy or_ ly lr ty tr hBY hBR
      go_wp2_with fail
      go_meet
      exact ⟨fy,fr,rfl,rfl,HF⟩)
 case rest =>
  obtain ⟨f1,f2,rfl,rfl,J0⟩:=hcut
  obtain ⟨w2,hw2⟩:∃ w2,w2=wc:=⟨_,rfl⟩
  subst wc
  clear c0 c1 c2 c3 c4 c5 c6 c7 HYC HRC HW0
  obtain ⟨d1,d2,l1,l2,t1,t2,o1,o2,hBw,hbs⟩:=J0.out
  have HJ:Hid (d1.length=n/\d2.length=n/\ko (Der S) d1/\ko (Rch S) d2/\w2.ownsRow 0 4 1 (.slice (some ⟨f1,0,none⟩) n n) n (booC d1)/\w2.ownsRow 0 4 1 (.slice (some ⟨f2,0,none⟩) n n) n (booC d2)/\Below w.heap.size w w2):=⟨l1,l2,t1,t2,o1,o2,hBw⟩
  obtain ⟨c0,-,-,-,c4,-,-,-⟩:=CC.out w2 hbs
  clear l1 l2 t1 t2 o1 o2 hBw hbs J0 CC
  go_wp2_with fail
  go_loopg [5] n (fun kx s5 wr=>∃ k:Nat,s5=.int .i64 k/\S.tk+1<=k/\k<=n/\n - k<=kx/\Hid (wr=w2/\∀ x,S.tk<x->x<k->Der S x/\Rch S x))
  case atStart=>exact ⟨S.tk+1,by simp,Nat.le_refl _,by have:=HN.out;omega,by omega,(⟨rfl,fun x h1 h2=>by omega⟩:w2=w2/\∀ x,S.tk<x->x<S.tk+1->Der S x/\Rch S x)⟩
  case round =>
   obtain ⟨k,rfl,hk1,hk,hg,J⟩:=hrel
   obtain ⟨hwr,hJ⟩:=J.out
   subst hwr
   have HK:Hid (∀ x,S.tk<x->x<k->Der S x/\Rch S x):=hJ
   clear J hJ
   by_cases hlt:k<n
   ·have hlt':(k:Int)<(n:Int):=by omega
    have q1:=qc3 HJ.out.2.2.2.2.1 HJ.out.1 hlt
    have q2:=qc3 HJ.out.2.2.2.2.2.1 HJ.out.2.1 hlt
    obtain ⟨x1,HX1⟩:∃ x1,Hid (isF d1 k=x1):=⟨_,rfl⟩
    obtain ⟨x2,HX2⟩:∃ x2,Hid (isF d2 k=x2):=⟨_,rfl⟩
    rw [HX1.out] at q1
    rw [HX2.out] at q2
    have T1:Hid (x1=true↔Der S k):=by rw [<-HX1.out];exact qav HJ.out.2.2.1 (by rw [HJ.out.1];exact hlt)
    have T2:Hid (x2=true↔Rch S k):=by rw [<-HX2.out];exact qav HJ.out.2.2.2.1 (by rw [HJ.out.2.1];exact hlt)
    have bad:(¬ Der S k\/¬ Rch S k)->Hid (b=true):=fun e=>HP.out.2 ⟨k,by omega,by have:=HN.out;omega,e⟩
    cases x1
    ·have HF:=bad (.inl (fun e=>by have:=T1.out.2 e;cases this))
     clear bad
     go_wp2_with fail
     go_ret
     exact ⟨by rw [HF.out];rfl,HJ.out.2.2.2.2.2.2⟩
    ·cases x2
     ·have HF:=bad (.inr (fun e=>by have:=T2.out.2 e;cases this))
      clear bad
      go_wp2_with fail
      go_ret
      exact ⟨by rw [HF.out];rfl,HJ.out.2.2.2.2.2.2⟩
     ·have HF:Hid (∀ x,S.tk<x->x<k+1->Der S x/\Rch S x):=fun x h1 h2=>by
       rcases Nat.lt_or_ge x k with h3 | h3
       ·exact HK.out x h1 h3
       ·have:x=k:=by omega
        subst this
        exact ⟨T1.out.1 rfl,T2.out.1 rfl⟩
      clear bad
      go_wp2_with fail
      go_roundg (n - (k+1))
      case measure=>omega
      case rel=>exact ⟨k+1,by simp,by omega,by omega,Nat.le_refl _,(⟨rfl,HF.out⟩:wr=wr/\∀ x,S.tk<x->x<k+1->Der S x/\Rch S x)⟩
   ·have hlt':¬ (k:Int)<(n:Int):=by omega
    have HF:Hid (b=false):=by
     cases b
     ·rfl
     ·obtain ⟨x,h1,h2,h3⟩:=HP.out.1 rfl
      have h4:=HK.out x h1 (by have:=HN.out;omega)
      rcases h3 with h3 | h3
      ·exact absurd h4.1 h3
      ·exact absurd h4.2 h3
    go_wp2_with fail
    go_ret
    exact ⟨by rw [HF.out];rfl,HJ.out.2.2.2.2.2.2⟩
structure OX (w W:World) (gb rb sb:Nat) (h:Hd) (G:Gm) (hh:SHd) (S:Sp) (qs:List (SR × Option Addr × Nat)):Prop where
 gx:W.heap[gb]?=some (.cells #[.slice h.ta G.ts.length h.tc,.string G.s,.int .i64 G.e,.slice h.ra G.rs.length h.rc] 25 (0,0))
 rx:W.heap[rb]?=some (.cells zC 31 (0,0))
 sx:W.heap[sb]?=some (.cells (sC hh S) 31 (0,0))
 own:OwnSp W w.heap.size hh S qs
 bel:Below w.heap.size w W
 ne:rb≠sb
 nw:w.heap.size<=sb
theorem OX.step {w W W':World} {gb rb sb:Nat} {h:Hd} {G:Gm} {hh:SHd} {S:Sp} {qs:List (SR × Option Addr × Nat)} (s:OX w W gb rb sb h G hh S qs) (hb:Below W.heap.size W W'):OX w W' gb rb sb h G hh S qs :=
 ⟨qf hb s.gx,qf hb s.rx,qf hb s.sx,s.own.step hb,qd s.bel hb,s.ne,s.nw⟩
theorem qbu {W:World} {sb j b T:Nat} {u:Value} {c:Array Value} (hb:W.heap[b]?=some (.cells c T (0,0))) (hn:b≠sb):(W.setCell ⟨sb,j,none⟩ u).heap[b]?=some (.cells c T (0,0)):=by
 rw [Below.heap_setCell _ _ _ _ hn]
 exact hb
theorem OX.putSt {w W:World} {gb rb sb:Nat} {h:Hd} {G:Gm} {hh:SHd} {S:Sp} {qs:List (SR × Option Addr × Nat)} (s:OX w W gb rb sb h G hh S qs) (x:Nat):OX w (W.setCell ⟨sb,2,none⟩ (.int .i64 (x:Int))) gb rb sb h G hh ⟨S.tk,S.nt,x,S.ex,S.nm,S.lv,S.az,S.rs⟩ qs:=by
 have f:=s.own.far (j:=2) (u:=.int .i64 (x:Int)) ⟨_,s.sx⟩
 refine ⟨qbu s.gx (qr ⟨_,s.gx⟩ ⟨_,s.sx⟩ (by decide)),qbu s.rx s.ne,?_,⟨f.nm,f.lv,f.az,f.rl,f.map,f.row⟩,s.bel.setCell (p:=⟨sb,2,none⟩) s.nw _,s.ne,s.nw⟩
 rw [ye s.sx]
 unfold sC
 simp
theorem OX.putRs {w W:World} {gb rb sb n:Nat} {h:Hd} {G:Gm} {hh:SHd} {S:Sp} {qs rs:List (SR × Option Addr × Nat)} (s:OX w W gb rb sb h G hh S qs) (ao:Option Addr) (c:Nat) (hn:rs.length=n) (ho:W.ownsRow w.heap.size 47 4 (.slice ao n c) n (srC rs)) (hr:∀ q∈rs,W.ownsRow w.heap.size 3 1 (.slice q.2.1 q.1.r.length q.2.2) q.1.r.length (natC q.1.r)):OX w (W.setCell ⟨sb,7,none⟩ (.slice ao n c)) gb rb sb h G ⟨hh.na,hh.nc,hh.la,hh.lc,hh.aa,hh.ac,ao,c⟩ ⟨S.tk,S.nt,S.st,S.ex,S.nm,S.lv,S.az,rs.map (·.1)⟩ rs:=by
 have f:=s.own.far (j:=7) (u:=.slice ao n c) ⟨_,s.sx⟩
 have e:(rs.map (·.1)).length=n:=by rw [List.length_map];exact hn
 refine ⟨qbu s.gx (qr ⟨_,s.gx⟩ ⟨_,s.sx⟩ (by decide)),qbu s.rx s.ne,?_,⟨f.nm,f.lv,f.az,?_,rfl,fun q hq=>xw (hr q hq) ⟨_,s.sx⟩ (by decide)⟩,s.bel.setCell (p:=⟨sb,7,none⟩) s.nw _,s.ne,s.nw⟩
 ·rw [ye s.sx]
  unfold sC
  simp [hn]
 ·simp only [e]
  exact xw ho ⟨_,s.sx⟩ (by decide)
theorem box8 {W:World} {b:Nat} {c0 c1 c2 c3 c4 c5 c6 c7:Value} (h:W.heap[b]?=some (.cells #[c0,c1,c2,c3,c4,c5,c6,c7] 31 (0,0))):W.cell? ⟨b,0,none⟩=some c0/\W.cell? ⟨b,1,none⟩=some c1/\W.cell? ⟨b,2,none⟩=some c2/\W.cell? ⟨b,3,none⟩=some c3/\W.cell? ⟨b,4,none⟩=some c4/\W.cell? ⟨b,5,none⟩=some c5/\W.cell? ⟨b,6,none⟩=some c6/\W.cell? ⟨b,7,none⟩=some c7:=by
 refine ⟨?_,?_,?_,?_,?_,?_,?_,?_⟩ <;> (rw [qe h];rfl)
theorem qa4 {W:World} {b:Nat} {c:Array Value} (h:W.heap[b]?=some (.cells c 31 (0,0))):W.frozen? ⟨b,0,none⟩=false/\W.frozen? ⟨b,1,none⟩=false/\W.frozen? ⟨b,2,none⟩=false/\W.frozen? ⟨b,3,none⟩=false/\W.frozen? ⟨b,4,none⟩=false/\W.frozen? ⟨b,5,none⟩=false/\W.frozen? ⟨b,6,none⟩=false/\W.frozen? ⟨b,7,none⟩=false :=
 ⟨qi h 0,qi h 1,qi h 2,qi h 3,qi h 4,qi h 5,qi h 6,qi h 7⟩
theorem box4 {W:World} {b T:Nat} {c0 c1 c2 c3:Value} (h:W.heap[b]?=some (.cells #[c0,c1,c2,c3] T (0,0))):W.cell? ⟨b,0,none⟩=some c0/\W.cell? ⟨b,1,none⟩=some c1/\W.cell? ⟨b,2,none⟩=some c2/\W.cell? ⟨b,3,none⟩=some c3:=by
 refine ⟨?_,?_,?_,?_⟩ <;> (rw [qe h];rfl)
theorem OwnSp.mono {W:World} {base base':Nat} {h:SHd} {S:Sp} {qs:List (SR × Option Addr × Nat)} (s:OwnSp W base h S qs) (hb:base'<=base):OwnSp W base' h S qs :=
 ⟨zd s.nm hb,zd s.lv hb,zd s.az hb,zd s.rl hb,s.map,fun q hq=>zd (s.row q hq) hb⟩
theorem OX.first {w W:World} {gb rb:Nat} {h:Hd} {G:Gm} {hh:SHd} {S:Sp} {qs:List (SR × Option Addr × Nat)} {c:Array Value} (hg:W.heap[gb]?=some (.cells #[.slice h.ta G.ts.length h.tc,.string G.s,.int .i64 G.e,.slice h.ra G.rs.length h.rc] 25 (0,0))) (hr:W.heap[rb]?=some (.cells zC 31 (0,0))) (hS:sC hh S=c) (ho:OwnSp W w.heap.size hh S qs) (hb:Below w.heap.size w W):OX w (W.alloc (.cells c 31)) gb rb W.heap.size h G hh S qs:=by
 have ha:Below W.heap.size W (W.alloc (.cells c 31)):=qb _ _
 have h2:=(Array.getElem?_eq_some_iff.1 hr).1
 refine ⟨qf ha hg,qf ha hr,?_,ho.step ha,qd hb ha,by omega,hb.size⟩
 rw [hS]
 exact heap_alloc_new _ _
theorem qsf {W:World} {B n nc:Nat} {na:Option Addr} {l:List ByteArray} (h:W.ownsRow B 9 1 (.slice na n nc) n (strC l)) (hB:B<=W.heap.size) (hn:n<10000) (x:ByteArray) :
  ∃ g c W',(Builtin.append_ #[28,28] 28 #[.slice na n nc,.slice (some ⟨W.heap.size,0,none⟩) 1 1]).run Tryz.prog (W.alloc (.cells #[.string x] 9))=.ok (.slice (some ⟨g,0,none⟩) (n+1) c) W'/\W'.ownsRow B 9 1 (.slice (some ⟨g,0,none⟩) (n+1) c) (n+1) (strC (l++[x]))/\Kept (fun k=>blk na=some k) W W':=by
 obtain ⟨g,c,W',hr,ho,hK,-⟩:=jc (us:=[.string x]) u28 i9 rfl (by decide) (by decide) rfl (fun u hu=>by rw [List.mem_singleton] at hu;subst hu;rfl) h hB (by omega)
 have e:strC (l++[x])=strC l++[.string x]:=by unfold strC;rw [List.map_append];rfl
 rw [<-e] at ho
 exact ⟨g,c,W',hr,ho,((Kept.refl _ W).alloc _).trans hK (fun k _ e=>zi e)⟩
theorem qb9 (G:Gm) (h:Hd) (w:World) (hG:IsG w h G):Calls Tryz.prog 31 #[gv h G] w fun e w'=>∃ ao c,e=.returned (.slice ao (lfs G.rs).length c)/\w'.ownsRow w.heap.size 9 1 (.slice ao (lfs G.rs).length c) (lfs G.rs).length (strC (lfs G.rs))/\Below w.heap.size w w':=by
 have hs2:G.rs.length<=200:=hG.small.nr
 have hm2:=kj hG.rul
 have HG:Hid (IsG w h G):=hG
 clear hG
 obtain ⟨ta,tc,ra,rc⟩:=h
 unfold gv
 simp only at hm2 ⊢
 have hv:Below w.heap.size w (w.alloc (.cells #[.slice ta G.ts.length tc,.string G.s,.int .i64 G.e,.slice ra G.rs.length rc] 25)):=qb _ _
 have hx:(w.alloc (.cells #[.slice ta G.ts.length tc,.string G.s,.int .i64 G.e,.slice ra G.rs.length rc] 25)).heap[w.heap.size]?=some (.cells #[.slice ta G.ts.length tc,.string G.s,.int .i64 G.e,.slice ra G.rs.length rc] 25 (0,0)):=heap_alloc_new _ _
 obtain ⟨tn,HTN⟩:∃ tn,Hid (G.ts.length=tn):=⟨_,rfl⟩
 obtain ⟨rn,HRN⟩:∃ rn,Hid (G.rs.length=rn):=⟨_,rfl⟩
 rw [HTN.out] at hv hx ⊢
 rw [HRN.out] at hs2 hm2 hv hx ⊢
 go_enter Tryz.func31,Tryz.ntmps31
 go_upto_region 1 with fail
 generalize w.alloc (.cells #[.slice ta tn tc,.string G.s,.int .i64 G.e,.slice ra rn rc] 25)=W1 at hv hx ⊢
 obtain ⟨gb,HGB⟩:∃ gb,Hid (gb=w.heap.size):=⟨_,rfl⟩
 rw [<-HGB.out] at hx ⊢
 have H1:Hid (W1.heap[gb]?=some (.cells #[.slice ta tn tc,.string G.s,.int .i64 G.e,.slice ra rn rc] 25 (0,0))/\Below w.heap.size w W1):=⟨hx,hv⟩
 clear hx hv HGB
 go_wp2_with fail
 go_loopg [3,4] rn (fun kx s3 s4 wr=>∃ (k:Nat) (ao:Option Addr) (n c:Nat),s3=.slice ao n c/\s4=.int .i64 k/\k<=rn/\rn - k<=kx/\Hid ((lfs (G.rs.take k)).length=n/\wr.ownsRow w.heap.size 9 1 (.slice ao n c) n (strC (lfs (G.rs.take k)))/\Below w.heap.size w wr/\wr.heap[gb]?=some (.cells #[.slice ta tn tc,.string G.s,.int .i64 G.e,.slice ra rn rc] 25 (0,0))))
 case atStart=>exact ⟨0,none,0,0,rfl,rfl,Nat.zero_le _,by omega,rfl,World.ownsRow_nil _ _ _ _,H1.out.2,H1.out.1⟩
 case round =>
  clear H1
  obtain ⟨k,ao,n,c,rfl,rfl,hk,hg,J⟩:=hrel
  obtain ⟨p0,p1,p2,p3⟩:=box4 J.out.2.2.2
  by_cases hlt:k<rn
  ·have hlt':(k:Int)<(rn:Int):=by omega
   obtain ⟨r,hr⟩:∃ r,G.rs[k]?=some r:=⟨G.rs[k]'(by rw [HRN.out];exact hlt),List.getElem?_eq_getElem _⟩
   have HT:Hid (G.rs[k]?=some r):=hr
   obtain ⟨b,o,xa,xc,hra,d0,d1,d2,-⟩:=(HG.out.rul.below J.out.2.2.1).at hr
   simp only at hra
   subst hra
   have hn2:n<=200:=by have:=qcs G.rs k;have:=J.out.1;omega
   have HPC:Hid (Calls Tryz.prog 32 #[.slice ao n c,.string r.l] wr fun e w'=>e=.returned (.int .i64 (idxI (q9 (lfs (G.rs.take k)) r.l)))/\w'=wr):=by
    have:=qa2 (lfs (G.rs.take k)) ao c r.l wr (by rw [J.out.1];exact Row.of_own J.out.2.1) (by rw [J.out.1];omega)
    rw [J.out.1] at this
    exact this
   obtain ⟨g,c',W',hrun,ho,hk0⟩:=qsf J.out.2.1 J.out.2.2.1.size (by omega) r.l
   have HA:Hid (W'.ownsRow w.heap.size 9 1 (.slice (some ⟨g,0,none⟩) (n+1) c') (n+1) (strC (lfs (G.rs.take k)++[r.l]))/\Below w.heap.size w W'/\W'.heap[gb]?=some (.cells #[.slice ta tn tc,.string G.s,.int .i64 G.e,.slice (some ⟨b,o,none⟩) rn rc] 25 (0,0))):=by
    refine ⟨ho,J.out.2.2.1.trans (hk0.below J.out.2.2.1.size (fun k hk e=>?_)),?_⟩
    ·have:=(qw J.out.2.1 e).1
     omega
    ·rw [hk0.block gb (Array.getElem?_eq_some_iff.1 J.out.2.2.2).1 (fun e=>qr ⟨_,J.out.2.2.2⟩ (qw J.out.2.1 e).2.2 (by decide) rfl)]
     exact J.out.2.2.2
   clear ho hk0 hr
   obtain ⟨z,HZ⟩:∃ z,Hid (idxI (q9 (lfs (G.rs.take k)) r.l)=z):=⟨_,rfl⟩
   rw [HZ.out] at HPC
   go_wp2_with fail
   refine HPC.out.mono ?_
   rintro e wq ⟨rfl,rfl⟩
   by_cases hz:z<0
   ·have HF:Hid (lfs (G.rs.take (k+1))=lfs (G.rs.take k)++[r.l]):=by
     rw [qdi HT.out]
     unfold lfS
     rw [if_neg (fun e=>by have:=(qa3 _).2 e;rw [HZ.out] at this;omega)]
     exact rfl
    go_wp2_with (at_builtin;refine Lib.wpList_append_run _ rfl _ _ _ _ rfl _ _ rfl rfl _ _ hrun ?_)
    go_roundg (rn - (k+1))
    case measure=>omega
    case rel =>
     refine ⟨k+1,_,_,_,rfl,by simp,by omega,Nat.le_refl _,?_⟩
     rw [HF.out]
     exact ⟨by simp [J.out.1],HA.out⟩
   ·have HF:Hid (lfs (G.rs.take (k+1))=lfs (G.rs.take k)):=by
     rw [qdi HT.out]
     unfold lfS
     rw [if_pos ((qa3 _).1 (by rw [HZ.out];omega))]
     exact rfl
    go_wp2_with fail
    go_roundg (rn - (k+1))
    case measure=>omega
    case rel =>
     refine ⟨k+1,_,_,_,rfl,by simp,by omega,Nat.le_refl _,?_⟩
     rw [HF.out]
     exact J.out
  ·have hlt':¬ (k:Int)<(rn:Int):=by omega
   have hkk:k=rn:=by omega
   have HE:Hid ((lfs G.rs).length=n/\wr.ownsRow w.heap.size 9 1 (.slice ao n c) n (strC (lfs G.rs))/\Below w.heap.size w wr):=by
    have:=J.out
    rw [List.take_of_length_le (by rw [HRN.out,hkk];exact Nat.le_refl _)] at this
    exact ⟨this.1,this.2.1,this.2.2.1⟩
   clear J hkk
   go_wp2_with fail
   go_ret
   rw [HE.out.1]
   exact ⟨_,_,rfl,HE.out.2⟩
theorem qgq (G:Gm) (h:Hd) (w:World) (hG:IsG w h G) (s:ByteArray) :
  Calls Tryz.prog 54 #[gv h G,.string s] w fun e w'=>e=.returned (.int .i64 (idxI (q9 (tkG G) s)))/\Below w.heap.size w w':=by
 obtain ⟨ts,st,ex,rs⟩:=G
 obtain ⟨ta,tc,ra,rc⟩:=h
 have hm1:ts.length<=tc/\tc<=9223372036854775807:=by have h1:=hG.tok.le;have h2:=hG.tok.max;simp only at h1 h2;unfold maxLen at h2;omega
 have hs1:ts.length<=100:=hG.small.nt
 have HR:Hid (Row w 3 ta ts.length tc (tokC ts)):=hG.tok
 unfold gv tkG
 simp only
 clear hG
 obtain ⟨n,HN⟩:∃ n,Hid (ts.length=n):=⟨_,rfl⟩
 rw [HN.out] at HR hm1 hs1 ⊢
 generalize rs.length=rn
 obtain ⟨l,HL⟩:∃ l,Hid (ts.map (·.n)=l):=⟨_,rfl⟩
 rw [HL.out]
 have HLL:Hid (l.length=n):=by rw [<-HL.out,List.length_map];exact HN.out
 have HLG:Hid (∀ (i:Nat) (u:Tk),ts[i]?=some u->l[i]?=some u.n):=fun i u hu=>by rw [<-HL.out,List.getElem?_map,hu];rfl
 go_enter Tryz.func54,Tryz.ntmps54
 go_upto_region 1 with fail
 have c0:(w.alloc (.cells #[.slice ta n tc,.string st,.int .i64 ex,.slice ra rn rc] 25)).cell? ⟨w.heap.size,0,none⟩=some (.slice ta n tc):=by rw [World.cell?_alloc_mark];rfl
 have HB:Hid (Below w.heap.size w (w.alloc (.cells #[.slice ta n tc,.string st,.int .i64 ex,.slice ra rn rc] 25))/\Row (w.alloc (.cells #[.slice ta n tc,.string st,.int .i64 ex,.slice ra rn rc] 25)) 3 ta n tc (tokC ts)):=⟨qb _ _,HR.out.below (qb _ _)⟩
 generalize w.alloc (.cells #[.slice ta n tc,.string st,.int .i64 ex,.slice ra rn rc] 25)=wq at c0 HB ⊢
 generalize w.heap.size=gb at c0 ⊢
 clear HR
 go_wp2
 go_loop [5] (fun v=>∃ i:Nat,i<=n/\v=.int .i64 i/\Hid (∀ (j:Nat) (y:ByteArray),j<i->l[j]?=some y->y≠s)) (fun v=>n - (intOf v).toNat)
 case atStart=>exact ⟨0,Nat.zero_le _,rfl,(fun j u h=>absurd h (Nat.not_lt_zero _):∀ (j:Nat) (y:ByteArray),j<0->l[j]?=some y->y≠s)⟩
 case round =>
  obtain ⟨i,hi,rfl,J⟩:=hrel
  by_cases hlt:i<n
  ·have hlt':(i:Int)<(n:Int):=by omega
   obtain ⟨u,hu⟩:∃ u,ts[i]?=some u:=⟨ts[i]'(by rw [HN.out];exact hlt),List.getElem?_eq_getElem _⟩
   obtain ⟨b,o,rfl,p0,-,-⟩:=ja HB.out.2 hu
   have HU:Hid (l[i]?=some u.n):=HLG.out i u hu
   clear hu
   by_cases he:u.n=s
   ·have hb:=xh he
    have HF:Hid (idxI (q9 l s)=(i:Int)):=by
     show _=_
     rw [qdg J.out HU.out he]
     rfl
    generalize u.n=un at p0 hb HU
    clear he
    go_wp2
    go_ret
    exact ⟨by rw [HF.out];rfl,HB.out.1⟩
   ·have hb:=k9 he
    have HF:Hid (∀ (j:Nat) (y:ByteArray),j<i+1->l[j]?=some y->y≠s):=fun j v hj hv=>by
     rcases Nat.lt_or_ge j i with h | h
     ·exact J.out j v h hv
     ·have:j=i:=by omega
      subst this
      rw [HU.out] at hv
      cases hv
      exact he
    generalize u.n=un at p0 hb HU
    clear he
    go_wp2
    go_round
    case rel=>exact ⟨i+1,by omega,by simp,HF⟩
    case measure=>simp [intOf];omega
  ·have hlt':¬ (i:Int)<(n:Int):=by omega
   have HF:Hid (idxI (q9 l s)=-1):=by
    show _=_
    rw [qbq (fun j y hy=>J.out j y (by have:=(List.getElem?_eq_some_iff.1 hy).1;rw [HLL.out] at this;omega) hy)]
    rfl
   go_wp2
   go_ret
   exact ⟨by rw [HF.out];rfl,HB.out.1⟩
end Go.Proofs.YtngclmglmhiljaaGreatDoor
