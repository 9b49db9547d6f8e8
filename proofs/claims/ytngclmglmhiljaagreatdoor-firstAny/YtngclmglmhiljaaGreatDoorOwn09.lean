/- Texts that the proofs of the First statements stand on, part Own09. -/
import Derived.RangeFuncNested
import Derived.RangeFuncBound
import Derived.RangeFuncCalls
import Derived.RangeFuncLeaves
import Derived.Shelf.Abstract
import Derived.Shelf.RegionOpen
import Derived.WalkKit
import Derived.OwnWalkIn
import Derived.TacticsInMore
import Derived.LoopNIn
import Derived.LoopIn
import Derived.Laws.Bits64b
import Derived.BigQuiet
import Derived.Test.YtngclmglmhiljaaGreatDoorOwn08
set_option maxHeartbeats 16000000
set_option maxRecDepth 100000
namespace Go.Proofs.YtngclmglmhiljaaGreatDoor
open Go.RowKit
structure Rlk (S:Sp) (n:Nat) (r:SR) (x:Nat):Prop where
 l:r.l=(x:Int)
 xn:x<n
 sy:∀ y∈r.r,y<n/\y≠S.tk
 ln:r.r.length<=100
def LF (w W1 wr:World) (fb n:Nat) (p:FP) (E:List Bool) (S:Sp) (x:Nat) (r:SR) (WL:List (List Nat)) (k:Nat):Prop :=
 ∃ p' WL',p'.eb=p.eb/\FM wr w.heap.size fb p' n S.tk E WL'/\FV W1 fb p wr p'/\FA S n x r.r WL WL' k/\∀ z∈r.r.take k,Nul S z
theorem qp6 {l:List Nat} {k y:Nat} (hy:l[k]?=some y) {P:Nat->Prop} (h:∀ z∈l.take k,P z) (hP:P y):∀ z∈l.take (k+1),P z:=by
 intro z hz
 rw [List.take_add_one,List.mem_append] at hz
 rcases hz with hz | hz
 ·exact h z hz
 ·rw [hy] at hz
  rw [Option.toList_some,List.mem_singleton] at hz
  subst hz
  exact hP
theorem qgn (w W:World) (fb n:Nat) (p:FP) (E:List Bool) (S:Sp) (WL:List (List Nat)) (h:FM W w.heap.size fb p n S.tk E WL) (hb:Below w.heap.size w W) (hE:∀ z,isF E z=true↔Nul S z) (r:SR) (x i:Nat) (xa:Option Addr) (xc:Nat) (h0:0<i) (hi:S.rs[i]?=some r) (hk:Rlk S n r x) (hrow:Row w 1 xa r.r.length xc (natC r.r)) (hI:Ins WL) (hM:∃ M,Mng S n M/\vv WL M) (hn:2 * n<=WL.length) (hwl:WL.length<=50000) (htot:tot WL<=90000) :
  Calls Tryz.prog 44 #[.pointer (some ⟨fb,0,none⟩),.agg #[.int .i64 r.l,.slice xa r.r.length xc,.int .i64 r.lv,.int .i64 r.a]] W fun e W'=>e=.returned (.tuple #[])/\∃ p',p'.eb=p.eb/\∃ WL',FM W' w.heap.size fb p' n S.tk E WL'/\FV W fb p W' p'/\FA S n x r.r WL WL' r.r.length:=by
 have HX:Hid ((∀ z,isF E z=true↔Nul S z)/\S.rs[i]?=some r/\Rlk S n r x/\0<i):=⟨hE,hi,hk,h0⟩
 have HR:Hid (∀ V:World,Below w.heap.size w V->Row V 1 xa r.r.length xc (natC r.r)):=fun V hV=>⟨hrow.len,hrow.le,hrow.max,hrow.lies.imp id fun ⟨b,o,he,hc⟩=>⟨b,o,he,fun j u hu=>qj hV (hc j u hu)⟩⟩
 have HZ:Hid (2 * n<=WL.length/\WL.length<=50000/\tot WL<=90000):=⟨hn,hwl,htot⟩
 have hxc:=ze hrow
 have hl:=hk.l
 obtain ⟨rn,HN⟩:∃ rn,Hid (r.r.length=rn):=⟨_,rfl⟩
 have hr100:rn<=100:=by rw [<-HN.out];exact hk.ln
 rw [HN.out] at hxc ⊢
 rw [hl]
 have hv:Below W.heap.size W (W.alloc (.cells #[.int .i64 (x:Int),.slice xa rn xc,.int .i64 r.lv,.int .i64 r.a] 47)):=qb _ _
 have hb3:(W.alloc (.cells #[.int .i64 (x:Int),.slice xa rn xc,.int .i64 r.lv,.int .i64 r.a] 47)).heap[W.heap.size]?=some (.cells #[.int .i64 (x:Int),.slice xa rn xc,.int .i64 r.lv,.int .i64 r.a] 47 (0,0)):=heap_alloc_new _ _
 have HV:Hid (FM (W.alloc (.cells #[.int .i64 (x:Int),.slice xa rn xc,.int .i64 r.lv,.int .i64 r.a] 47)) w.heap.size fb p n S.tk E WL/\FV W fb p (W.alloc (.cells #[.int .i64 (x:Int),.slice xa rn xc,.int .i64 r.lv,.int .i64 r.a] 47)) p/\Below w.heap.size w (W.alloc (.cells #[.int .i64 (x:Int),.slice xa rn xc,.int .i64 r.lv,.int .i64 r.a] 47))/\∀ k,FK fb p k->k<W.heap.size):=⟨h.below hv,⟨zk hv,fun _ e=>.inl e⟩,qd hb hv,fun k hk=>(h.lt hk).2.1⟩
 have HB:Hid ((W.alloc (.cells #[.int .i64 (x:Int),.slice xa rn xc,.int .i64 r.lv,.int .i64 r.a] 47)).heap[W.heap.size]?=some (.cells #[.int .i64 (x:Int),.slice xa rn xc,.int .i64 r.lv,.int .i64 r.a] 47 (0,0))):=hb3
 have HS:Hid (W.heap.size<(W.alloc (.cells #[.int .i64 (x:Int),.slice xa rn xc,.int .i64 r.lv,.int .i64 r.a] 47)).heap.size):=by
  show _<_
  rw [qt];omega
 have HF0:Hid (LF w (W.alloc (.cells #[.int .i64 (x:Int),.slice xa rn xc,.int .i64 r.lv,.int .i64 r.a] 47)) (W.alloc (.cells #[.int .i64 (x:Int),.slice xa rn xc,.int .i64 r.lv,.int .i64 r.a] 47)) fb n p E S x r WL 0):=⟨p,WL,rfl,HV.out.1,FV.refl _ _ _,FA.begin hI hM,fun z hz=>by cases hz⟩
 have d0:=hb3
 clear h hb hE hi hk h0 hrow hI hM hn hwl htot hl hv hb3
 go_enter Tryz.func44,Tryz.ntmps44
 go_upto_block 0 with fail
 generalize W.alloc (.cells #[.int .i64 (x:Int),.slice xa rn xc,.int .i64 r.lv,.int .i64 r.a] 47)=W1 at HV HB HF0 HS d0 ⊢
 obtain ⟨b3,HB3⟩:∃ b3,Hid (b3=W.heap.size):=⟨_,rfl⟩
 rw [<-HB3.out] at HB HS HV d0 ⊢
 have HBX:Hid (∀ (V:World) (p':FP),FV W1 fb p V p'->V.cell? ⟨b3,0,none⟩=some (.int .i64 (x:Int))/\V.cell? ⟨b3,1,none⟩=some (.slice xa rn xc)):=fun V p' hV=>by
  have hb:V.heap[b3]?=some (.cells #[.int .i64 (x:Int),.slice xa rn xc,.int .i64 r.lv,.int .i64 r.a] 47 (0,0)):=by
   rw [hV.1.block b3 HS.out (fun e=>by have:=HV.out.2.2.2 b3 e;omega)]
   exact HB.out
  exact ⟨by rw [qe hb];rfl,by rw [qe hb];rfl⟩
 have e0:W1.cell? ⟨b3,1,none⟩=some (.slice xa rn xc):=(HBX.out W1 p (FV.refl _ _ _)).2
 clear d0
 go_wp2_with fail
 clear e0
 go_loopg [9] rn (fun kx s9 wr=>∃ k:Nat,s9=.int .i64 k/\k<=rn/\rn - k<=kx/\Hid (LF w W1 wr fb n p E S x r WL k))
 case atStart=>exact ⟨0,rfl,Nat.zero_le _,by omega,HF0⟩
 case round =>
  clear HF0
  obtain ⟨k,rfl,hk,hg,J⟩:=hrel
  by_cases hlt:k<rn
  ·have hlt':(k:Int)<(rn:Int):=by omega
   obtain ⟨p1,WL1,hpe,hF1,hV1,hA,hT⟩:=J.out
   obtain ⟨y,hy⟩:∃ y,r.r[k]?=some y:=⟨r.r[k]'(by rw [HN.out];exact hlt),List.getElem?_eq_getElem _⟩
   have hym:=HX.out.2.2.1.sy y (List.mem_of_getElem? hy)
   have hBw:Below w.heap.size w wr:=HV.out.2.2.1.trans (FV.below HV.out.1 HV.out.2.2.1.size hV1)
   obtain ⟨bx,ox,hxa,cy⟩:=vj (HR.out wr hBw) hy
   subst hxa
   obtain ⟨d0,d1⟩:=HBX.out wr p1 hV1
   obtain ⟨l,hl⟩:∃ l,WL1[x]?=some l:=⟨WL1[x]'(by rw [hA.len];have:=HZ.out.1;have:=HX.out.2.2.1.xn;omega),List.getElem?_eq_getElem _⟩
   have HC:Hid (Calls Tryz.prog 47 #[.pointer (some ⟨fb,0,none⟩),.int .i64 (x:Int),.int .i64 (y:Int)] wr fun e W'=>e=.returned (.tuple #[])/\∃ p',p'.eb=p1.eb/\FM W' w.heap.size fb p' n S.tk E (WL1.set x (l++[y]))/\FV wr fb p1 W' p'):=qdf wr w.heap.size fb n S.tk p1 E WL1 hF1 hBw.size x y l hl (by have:=qf4 hl;have:=hA.tot;have:=HZ.out.2.2;omega)
   have HA:Hid (FA S n x r.r WL (WL1.set x (l++[y])) (k+1)):=hA.lay HX.out.2.2.2 HX.out.2.1 HX.out.2.2.1.l hy hym.2 hym.1 HX.out.2.2.1.xn (by have:=HZ.out.1;omega) hT hl
   have HJ:Hid (p1.eb=p.eb/\FV W1 fb p wr p1/\r.r[k]?=some y/\(∀ z∈r.r.take k,Nul S z)/\y<n):=⟨hpe,hV1,hy,hT,hym.1⟩
   clear hF1 hV1 hA hT hl J hBw hpe
   go_wp2_with fail
   refine HC.out.mono ?_
   rintro e V ⟨rfl,p2,hpe2,hF2,hV2⟩
   clear HC d0 d1 cy
   have hV3:=HJ.out.2.1.trans hV2
   obtain ⟨d0,d1⟩:=HBX.out V p2 hV3
   have d3:=hF2.c1
   have d4:=hF2.ce HJ.out.2.2.2.2
   have hyn:(y:Int)<(n:Int):=by have:=HJ.out.2.2.2.2;omega
   have HF2:Hid (p2.eb=p.eb/\FM V w.heap.size fb p2 n S.tk E (WL1.set x (l++[y]))/\FV W1 fb p V p2):=⟨hpe2.trans HJ.out.1,hF2,hV3⟩
   clear hF2 hV2 hV3 hpe2
   cases hf:isF E y
   ·rw [hf] at d4
    have HF:Hid (∃ p',p'.eb=p.eb/\∃ WL',FM V w.heap.size fb p' n S.tk E WL'/\FV W fb p V p'/\FA S n x r.r WL WL' rn):=by
     have hno:¬ Nul S y:=fun e=>by rw [<-HX.out.1,hf] at e;cases e
     refine ⟨p2,HF2.out.1,_,HF2.out.2.1,HV.out.2.1.trans HF2.out.2.2,?_⟩
     rw [<-HN.out]
     exact HA.out.stop HJ.out.2.2.1 hno
    clear HA HJ HF2 hf
    go_wp2_with fail
    refine bodyPost_ret (results_none rfl _ _ _) rfl ?_
    exact ⟨rfl,HF.out⟩
   ·rw [hf] at d4
    have HF:Hid (LF w W1 V fb n p E S x r WL (k+1)):=⟨p2,_,HF2.out.1,HF2.out.2.1,HF2.out.2.2,HA.out,qp6 HJ.out.2.2.1 HJ.out.2.2.2.1 ((HX.out.1 y).1 hf)⟩
    clear HA HJ HF2 hf
    go_wp2_with fail
    go_roundg (rn - (k+1))
    case measure=>omega
    case rel=>exact ⟨k+1,by simp,by omega,Nat.le_refl _,HF⟩
  ·have hlt':¬ (k:Int)<(rn:Int):=by omega
   have HF:Hid (∃ p',p'.eb=p.eb/\∃ WL',FM wr w.heap.size fb p' n S.tk E WL'/\FV W fb p wr p'/\FA S n x r.r WL WL' rn):=by
    have:k=rn:=by omega
    subst this
    obtain ⟨p1,WL1,hpe,hF1,hV1,hA,-⟩:=J.out
    exact ⟨p1,hpe,WL1,hF1,HV.out.2.1.trans hV1,hA⟩
   clear J
   go_wp2_with fail
   go_end0
   exact ⟨rfl,HF.out⟩
end Go.Proofs.YtngclmglmhiljaaGreatDoor
namespace Go.Proofs.YtngclmglmhiljaaGreatDoor
open Go.RowKit Go.Shelf
attribute [local go_sem] Oper.semAt_some
def bw (n:Nat) (hn:0<n) (zs:List Nat) (j:Nat):Nat × Fin n:=(zs.length - 1 - j,⟨(zs[zs.length - 1 - j]?.getD 0) % n,Nat.mod_lt _ hn⟩)
def bws (n:Nat) (hn:0<n) (zs:List Nat) (k:Nat):List (Nat × Fin n):=(List.range k).map (bw n hn zs)
theorem qfr (n:Nat) (hn:0<n) (zs:List Nat) (k:Nat):bws n hn zs (k+1)=bws n hn zs k++[bw n hn zs k]:=by
 unfold bws
 rw [List.range_succ,List.map_append]
 rfl
theorem qhm (n:Nat) (hn:0<n) (zs:List Nat) (k:Nat):(bws n hn zs k).length=k:=by unfold bws;simp
def encB (n:Nat) (x:Nat × Fin n):Array Value:=#[.int .i64 (x.1:Int),.int .i64 (x.2.val:Int)]
def KpB (n₀ Bs:Nat) (A B:World):Prop:=Below n₀ A B/\∀ (cs:Array Value) (T:TypeId) (fr:Nat × Nat),A.heap[Bs]?=some (.cells cs T fr)->B.heap[Bs]?=some (.cells cs T fr)
theorem KpB.refl (n₀ Bs:Nat) (A:World):KpB n₀ Bs A A:=⟨Below.refl _ _,fun _ _ _ h=>h⟩
theorem qcl {n₀ Bs:Nat} {A B C:World} (h:KpB n₀ Bs A B) (k:KpB n₀ Bs B C):KpB n₀ Bs A C:=⟨h.1.trans k.1,fun cs T fr e=>k.2 cs T fr (h.2 cs T fr e)⟩
theorem qsr {n₀ Bs:Nat} {w:World} (hn:n₀<=w.heap.size) (W:World) (l:Nat) (o o':Obj) (hl:w.heap.size<=l) (h:W.heap[l]?=some o) (hc:o.isCells=false) (hw:o.isWalk=false):KpB n₀ Bs W (W.putObj l o'):=by
 refine ⟨belowK_b hn W l o o' hl h hc hw,fun cs T fr e=>?_⟩
 rw [World.putObj_heap_other (fun e2=>?_)]
 ·exact e
 ·subst e2
  rw [h] at e
  cases e
  cases hc
theorem qri (F:Fence) (n:Nat) (h79:F.fn 79) (hro:F.round=none) (hn:1<=n) (l Bs n₀ len cap nn:Nat) (hnn:0<nn) (a:Option Addr) (zs:List Nat) (hz:zs.length=len) (hlen:len<=1000) (hcap:len<=cap/\cap<=9223372036854775807) (hzn:∀ z∈zs,z<nn) (J Jx:List (Nat × Fin nn)->World->Prop)
  (hY:∀ pre x W,J pre W->pre.length<len->YieldAt F (n - 1) Tryz.prog l (encB nn x) W fun e W'=>(e=.returned (.bool true)/\J (pre++[x]) W'/\KpB n₀ Bs W W')\/(e=.returned (.bool false)/\Jx (pre++[x]) W'))
  (W:World) (hBs:W.heap[Bs]?=some (.cells #[.slice a len cap] 26 (0,0))) (hc:∀ V,Below n₀ W V->Row V 1 a len cap (natC zs)) (h0:J [] W) :
  CallsIn F n Tryz.prog 79 #[.func (.yield l) #[] #[],.pointer (some ⟨Bs,0,none⟩)] W fun e W'=>(∃ v,e=.returned v) /\
   ((∃ ys,ys=bws nn hnn zs len/\J ys W')\/(∃ pre,(∃ k,k<=len/\pre=bws nn hnn zs k)/\Jx pre W')):=by
 refine callsIn_of_wp Tryz.func79 rfl h79 ?_ hro
 simp only [Tryz.ntmps79,List.size_toArray,List.length_cons,List.length_nil,Nat.reduceAdd,Nat.reduceSub,Array.replicate_succ,Array.replicate_zero,List.push_toArray,List.append_toArray,List.nil_append,List.cons_append]
 have c0:W.cell? ⟨Bs,0,none⟩=some (.slice a len cap):=by rw [qe hBs];rfl
 have HC:Hid (∀ V,KpB n₀ Bs W V->V.cell? ⟨Bs,0,none⟩=some (.slice a len cap)/\Row V 1 a len cap (natC zs)):=fun V hV=>⟨by rw [qe (hV.2 _ _ _ hBs)];rfl,hc V hV.1⟩
 gi_wp2
 clear c0
 gi_loopw [3] (fun i wr=>∃ k m,k+m=len/\i=.int .i64 ((m:Int) - 1)/\J (bws nn hnn zs k) wr/\KpB n₀ Bs W wr) (fun i _=>(intOf i+1).toNat)
 case atStart=>exact ⟨0,len,by omega,by simp,h0,KpB.refl _ _ _⟩
 case round =>
  obtain ⟨k,m,hkm,rfl,hJs,hnx⟩:=hrel
  obtain ⟨c0,hrow⟩:=HC.out wr hnx
  rcases Nat.eq_zero_or_pos m with hm | hm
  ·subst hm
   have hi:((0:Nat):Int) - 1=-1:=by omega
   rw [hi]
   gi_wp2
   go_end0
   have:k=len:=by omega
   subst this
   exact ⟨⟨_,rfl⟩,.inl ⟨_,rfl,hJs⟩⟩
  ·obtain ⟨q,rfl⟩:∃ q,m=q+1:=⟨m - 1,by omega⟩
   have hi:((q+1:Nat):Int) - 1=(q:Int):=by omega
   rw [hi]
   obtain ⟨z,hzq⟩:∃ z,zs[q]?=some z:=⟨zs[q]'(by omega),List.getElem?_eq_getElem _⟩
   obtain ⟨b,o,rfl,cz⟩:=vj hrow hzq
   have hzlt:=hzn z (List.mem_of_getElem? hzq)
   have hbw:bw nn hnn zs k=(q,⟨z,hzlt⟩):=by
    unfold bw
    have e:zs.length - 1 - k=q:=by omega
    simp only [e,hzq,Option.getD_some,Nat.mod_eq_of_lt hzlt]
   obtain ⟨fn,tmps,assign,body,hy,hR⟩:=hY _ (bw nn hnn zs k) wr hJs (by rw [qhm];omega)
   rw [hbw] at hy hR
   unfold encB at hy
   dsimp only at hy
   have hq0:(0:Int)<=(q:Int):=by omega
   have hql:(q:Int)<(len:Int):=by omega
   gi_wp2
   refine hR.mono ?_
   rintro e W3 (⟨rfl,hJ3,hk3⟩ | ⟨rfl,hJx3⟩)
   ·gi_wp2
    go_roundw
    case rel=>exact ⟨k+1,q,by omega,by simp,by rw [qfr,hbw];exact hJ3,qcl hnx hk3⟩
    case measure=>simp [intOf]
   ·gi_wp2
    refine bodyPost_ret (results_none rfl _ _ _) rfl ?_
    exact ⟨⟨_,rfl⟩,.inr ⟨_,⟨k+1,by omega,by rw [qfr,hbw]⟩,hJx3⟩⟩
theorem qom (F:Fence) (n:Nat) (h79:F.fn 79) (hro:F.round=none) (hn:1<=n) (Bs n₀ len cap nn:Nat) (hnn:0<nn) (a:Option Addr) (zs:List Nat) (hz:zs.length=len) (hlen:len<=1000) (hcap:len<=cap/\cap<=9223372036854775807) (hzn:∀ z∈zs,z<nn) (w:World) (hn₀:n₀<=w.heap.size)
  (hBs:w.heap[Bs]?=some (.cells #[.slice a len cap] 26 (0,0))) (hc:∀ V,Below n₀ w V->Row V 1 a len cap (natC zs)) :
  SeqStopsK F n Tryz.prog 79 #[.pointer (some ⟨Bs,0,none⟩)] (encB nn) (KpB n₀ Bs) (fun ys=>ys=bws nn hnn zs len) (fun pre=>∃ k,k<=len/\pre=bws nn hnn zs k) len w:=fun l J Jx W hW _ _ hY h0 =>
 qri F n h79 hro hn l Bs n₀ len cap nn hnn a zs hz hlen hcap hzn J Jx hY W ((hW.block Bs (Array.getElem?_eq_some_iff.1 hBs).1).trans hBs) (fun V hV=>hc V ((hW.mono hn₀).trans hV)) h0
attribute [local go_sem] Oper.semAt_some
theorem qau {n:Nat} {hn:0<n} {zs:List Nat} {pre:List (Nat × Fin n)} {x:Nat × Fin n} (hp:pre.length<zs.length) (hz:∀ z∈zs,z<n) (h:pre++[x]=bws n hn zs (pre.length+1)):pre=bws n hn zs pre.length/\zs[zs.length - (pre.length+1)]?=some x.2.val:=by
 rw [qfr] at h
 obtain ⟨h1,h2⟩:=List.append_inj h (by rw [qhm])
 refine ⟨h1,?_⟩
 have h3:x=bw n hn zs pre.length:=by simpa using h2
 obtain ⟨z,hzq⟩:∃ z,zs[zs.length - (pre.length+1)]?=some z:=⟨zs[zs.length - (pre.length+1)]'(by omega),List.getElem?_eq_getElem _⟩
 have hlt:=hz z (List.mem_of_getElem? hzq)
 rw [h3]
 unfold bw
 have e:zs.length - 1 - pre.length=zs.length - (pre.length+1):=by omega
 simp only [e,hzq,Option.getD_some,Nat.mod_eq_of_lt hlt]
def LkW (W5:World) (b4 fb:Nat) (p0:FP) (V:World) (p':FP):Prop:=Kept (fun k=>FK fb p0 k\/k=b4) W5 V/\∀ k,FK fb p' k->FK fb p0 k\/W5.heap.size<=k
def LI (w W5:World) (b4 fb n:Nat) (hn:0<n) (p0:FP) (E:List Bool) (S:Sp) (x:Nat) (r:SR) (WL:List (List Nat)) (pre:List (Nat × Fin n)) (V:World):Prop :=
 ∃ (p':FP) (WL':List (List Nat)) (q:Nat),p'.eb=p0.eb/\FM V w.heap.size fb p' n S.tk E WL'/\LkW W5 b4 fb p0 V p'/\V.heap[b4]?=some (.cells #[.int .i64 (q:Int)] 3 (0,0))/\q<WL'.length/\Ins WL'/\2 * n<=WL'.length/\WL'.length<=WL.length+pre.length/\(tot WL'<=tot WL+3 * pre.length/\(pre=bws n hn r.r pre.length->FB S n x r.r WL WL' (r.r.length - pre.length) q))
def LM (w W5:World) (b4 fb n:Nat) (hn:0<n) (p0:FP) (E:List Bool) (S:Sp) (x:Nat) (r:SR) (WL:List (List Nat)) (pre:List (Nat × Fin n)) (xx:Nat × Fin n) (V:World):Prop :=
 ∃ (p':FP) (WL':List (List Nat)) (q:Nat),p'.eb=p0.eb/\FM V w.heap.size fb p' n S.tk E WL'/\LkW W5 b4 fb p0 V p'/\V.heap[b4]?=some (.cells #[.int .i64 (q:Int)] 3 (0,0))/\q<WL'.length/\Ins WL'/\2 * n<=WL'.length/\WL'.length<=WL.length+pre.length/\(tot WL'<=tot WL+3 * pre.length+1/\(pre++[xx]=bws n hn r.r (pre.length+1)->FB1 S n x r.r WL WL' (r.r.length - (pre.length+1)) q xx.2.val))
theorem qlg {A B:World} {row:Option Nat} (hg:A.grownBy B row) (hr:∀ r,row=some r->∃ o:Obj,A.heap[r]?=some o/\o.isCells=false) {k T:Nat} (hl:Loc A k T):B.heap[k]?=A.heap[k]?:=by
 obtain ⟨cur,hc⟩:=hl
 refine hg.block k (Array.getElem?_eq_some_iff.1 hc).1 (fun e=>?_)
 obtain ⟨o,ho,hoc⟩:=hr k e.symm
 rw [hc] at ho
 cases ho
 cases hoc
theorem LI.own (w W5:World) (b4 fb n:Nat) (hn:0<n) (p0:FP) (E:List Bool) (S:Sp) (x:Nat) (r:SR) (WL:List (List Nat)):OwnFrom W5.heap.size (LI w W5 b4 fb n hn p0 E S x r WL):=by
 rintro pre V B row ⟨p',WL',q,h1,h2,h3,h4,h5⟩ hg hr
 have hc:∀ {k T:Nat},Loc V k T->B.heap[k]?=V.heap[k]?:=fun hl=>qlg hg (fun r e=>(hr r e).2) hl
 refine ⟨p',WL',q,h1,h2.keep (fun k hk=>?_),⟨⟨hg.os.trans h3.1.os,hg.tape.trans h3.1.tape,hg.output.trans h3.1.output,Nat.le_trans h3.1.size hg.size,fun k hk hne=>?_⟩,h3.2⟩,by rw [hc ⟨_,h4⟩];exact h4,h5⟩
 ·rcases (h2.lt hk).2.2 with e | e | e | e <;> exact hc e
 ·rw [<-h3.1.block k hk hne]
  exact hg.block k (Nat.lt_of_lt_of_le hk h3.1.size) (fun e=>by have:=(hr k e.symm).1;omega)
theorem FV.others {V V1:World} {B fb n tk:Nat} {p1 p2:FP} {E:List Bool} {WL:List (List Nat)} (h:FM V B fb p1 n tk E WL) (v:FV V fb p1 V1 p2):KeepsOthers V V1:=by
 refine ⟨v.1.size,fun k o hk ho=>?_⟩
 rw [v.1.block k (Array.getElem?_eq_some_iff.1 hk).1 (fun e=>?_)]
 ·exact hk
 ·have key:∀ {T:Nat},Loc V k T->False:=fun ⟨cur,hc⟩=>by
   rw [hk] at hc
   cases hc
   cases ho
  rcases (h.lt e).2.2 with e | e | e | e <;> exact key e
theorem LkW.out {W5 V:World} {b4 fb m:Nat} {p p1:FP} (h:LkW W5 b4 fb p V p1) (hp:∀ k,FK fb p k->k<m) {k:Nat} (h1:m<=k) (h2:k<W5.heap.size):¬ FK fb p1 k:=fun e=>by
 rcases h.2 k e with e | e
 ·have:=hp k e;omega
 ·omega
theorem LkW.move {W5 V V1:World} {b4 fb:Nat} {p p1 p2:FP} (h:LkW W5 b4 fb p V p1) (v:FV V fb p1 V1 p2):LkW W5 b4 fb p V1 p2:=by
 refine ⟨h.1.trans v.1 (fun k hk e=>?_),fun k hk=>?_⟩
 ·rcases h.2 k e with e | e
  ·exact .inl e
  ·omega
 ·rcases v.2 k hk with e | e
  ·exact h.2 k e
  ·exact .inr (Nat.le_trans h.1.size e)
theorem LkW.store {W5 V:World} {b4 fb:Nat} {p p1:FP} (h:LkW W5 b4 fb p V p1) (u:Value):LkW W5 b4 fb p (V.setCell ⟨b4,0,none⟩ u) p1:=⟨h.1.setCell ⟨b4,0,none⟩ u (fun _=>.inr rfl),h.2⟩
theorem FM.store {V:World} {B fb n tk b4:Nat} {p1:FP} {E:List Bool} {WL:List (List Nat)} (h:FM V B fb p1 n tk E WL) (hb:¬ FK fb p1 b4) (u:Value):FM (V.setCell ⟨b4,0,none⟩ u) B fb p1 n tk E WL:=h.keep (fun k hk=>Below.heap_setCell _ _ _ _ (fun e=>by
 have e:k=b4:=e
 subst e
 exact hb hk))
theorem KpB.move {V V1:World} {w:World} {fb n tk Bs:Nat} {p1 p2:FP} {E:List Bool} {WL:List (List Nat)} (h:FM V w.heap.size fb p1 n tk E WL) (hB:w.heap.size<=V.heap.size) (v:FV V fb p1 V1 p2) (hb:¬ FK fb p1 Bs):KpB w.heap.size Bs V V1:=⟨FV.below h hB v,fun cs T fr e=>by rw [v.1.block Bs (Array.getElem?_eq_some_iff.1 e).1 hb];exact e⟩
theorem KpB.store {V w:World} {b4 Bs:Nat} (h1:w.heap.size<=b4) (h2:Bs≠b4) (u:Value):KpB w.heap.size Bs V (V.setCell ⟨b4,0,none⟩ u):=⟨(Below.refl _ V).setCell (p:=⟨b4,0,none⟩) h1 _,fun cs T fr e=>by rw [Below.heap_setCell _ _ _ _ h2];exact e⟩
theorem qcm {V:World} {b4:Nat} {q:Int} (h:V.heap[b4]?=some (.cells #[.int .i64 q] 3 (0,0))) (z:Int):(V.setCell ⟨b4,0,none⟩ (.int .i64 z)).heap[b4]?=some (.cells #[.int .i64 z] 3 (0,0)):=by
 rw [setCell_eq_setRow V b4 0 _ 3 (0,0) _ h]
 exact setRow_heap _ _ _ _ 3 _ h
theorem qm6 (W:World) (a:Option Addr) (n c:Nat):Calls Tryz.prog 71 #[.slice a n c] W fun e w'=>e=.returned (.func (.func 79) #[] #[.pointer (some ⟨W.heap.size,0,none⟩)])/\w'=W.alloc (.cells #[.slice a n c] 26):=by
 go_enter Tryz.func71,Tryz.ntmps71
 go_wp2_with fail
 go_ret
 exact ⟨rfl,rfl⟩
theorem qfs (w W:World) (fb n:Nat) (hn0:0<n) (hn1:n<=1000) (p:FP) (E:List Bool) (S:Sp) (WL:List (List Nat)) (h:FM W w.heap.size fb p n S.tk E WL) (hb:Below w.heap.size w W) (hE:∀ z,isF E z=true↔Nul S z) (r:SR) (x i:Nat) (xa:Option Addr) (xc:Nat) (h0:0<i) (hi:S.rs[i]?=some r) (hk:Rlk S n r x) (hrow:Row w 1 xa r.r.length xc (natC r.r)) (hI:Ins WL) (hM:∃ M,Mng S n M/\vv WL M) (hn:2 * n<=WL.length) (hwl:WL.length<=50000) (htot:tot WL<=90000) :
  Calls Tryz.prog 45 #[.pointer (some ⟨fb,0,none⟩),.agg #[.int .i64 r.l,.slice xa r.r.length xc,.int .i64 r.lv,.int .i64 r.a]] W fun e W'=>e=.returned (.tuple #[])/\∃ p',p'.eb=p.eb/\∃ WL',FM W' w.heap.size fb p' n S.tk E WL'/\FV W fb p W' p'/\∃ q,FB S n x r.r WL WL' 0 q:=by
 have hxc:=ze hrow
 have hl:=hk.l
 have hxn:=hk.xn
 obtain ⟨rn,HN⟩:∃ rn,Hid (r.r.length=rn):=⟨_,rfl⟩
 have hr100:rn<=100:=by rw [<-HN.out];exact hk.ln
 rw [HN.out] at hxc ⊢
 rw [hl]
 have hbW:Below W.heap.size W ((((W.alloc (.cells #[.pointer (some ⟨fb,0,none⟩)] 44)).alloc (.cells #[.int .i64 (x:Int),.slice xa rn xc,.int .i64 r.lv,.int .i64 r.a] 47)).alloc (.cells #[.int .i64 ((n:Int)+(x:Int))] 3)).alloc (.cells #[.slice xa rn xc] 26)):=qd (qb _ _) (qd (qb _ _) (qd (qb _ _) (qb _ _)))
 have s1:(W.alloc (.cells #[.pointer (some ⟨fb,0,none⟩)] 44)).heap.size=W.heap.size+1:=qt _ _
 have s2:((W.alloc (.cells #[.pointer (some ⟨fb,0,none⟩)] 44)).alloc (.cells #[.int .i64 (x:Int),.slice xa rn xc,.int .i64 r.lv,.int .i64 r.a] 47)).heap.size=W.heap.size+2:=by rw [qt,s1]
 have s3:(((W.alloc (.cells #[.pointer (some ⟨fb,0,none⟩)] 44)).alloc (.cells #[.int .i64 (x:Int),.slice xa rn xc,.int .i64 r.lv,.int .i64 r.a] 47)).alloc (.cells #[.int .i64 ((n:Int)+(x:Int))] 3)).heap.size=W.heap.size+3:=by rw [qt,s2]
 have s4:((((W.alloc (.cells #[.pointer (some ⟨fb,0,none⟩)] 44)).alloc (.cells #[.int .i64 (x:Int),.slice xa rn xc,.int .i64 r.lv,.int .i64 r.a] 47)).alloc (.cells #[.int .i64 ((n:Int)+(x:Int))] 3)).alloc (.cells #[.slice xa rn xc] 26)).heap.size=W.heap.size+4:=by rw [qt,s3]
 have k2:((((W.alloc (.cells #[.pointer (some ⟨fb,0,none⟩)] 44)).alloc (.cells #[.int .i64 (x:Int),.slice xa rn xc,.int .i64 r.lv,.int .i64 r.a] 47)).alloc (.cells #[.int .i64 ((n:Int)+(x:Int))] 3)).alloc (.cells #[.slice xa rn xc] 26)).heap[W.heap.size]?=some (.cells #[.pointer (some ⟨fb,0,none⟩)] 44 (0,0)):=qf (qd (qb _ _) (qd (qb _ _) (qb _ _))) (heap_alloc_new _ _)
 have k3:((((W.alloc (.cells #[.pointer (some ⟨fb,0,none⟩)] 44)).alloc (.cells #[.int .i64 (x:Int),.slice xa rn xc,.int .i64 r.lv,.int .i64 r.a] 47)).alloc (.cells #[.int .i64 ((n:Int)+(x:Int))] 3)).alloc (.cells #[.slice xa rn xc] 26)).heap[W.heap.size+1]?=some (.cells #[.int .i64 (x:Int),.slice xa rn xc,.int .i64 r.lv,.int .i64 r.a] 47 (0,0)):=by
  have:=heap_alloc_new (W.alloc (.cells #[.pointer (some ⟨fb,0,none⟩)] 44)) (.cells #[.int .i64 (x:Int),.slice xa rn xc,.int .i64 r.lv,.int .i64 r.a] 47)
  rw [s1] at this
  exact qf (qd (qb _ _) (qb _ _)) this
 have k4:((((W.alloc (.cells #[.pointer (some ⟨fb,0,none⟩)] 44)).alloc (.cells #[.int .i64 (x:Int),.slice xa rn xc,.int .i64 r.lv,.int .i64 r.a] 47)).alloc (.cells #[.int .i64 ((n:Int)+(x:Int))] 3)).alloc (.cells #[.slice xa rn xc] 26)).heap[W.heap.size+2]?=some (.cells #[.int .i64 ((n:Int)+(x:Int))] 3 (0,0)):=by
  have:=heap_alloc_new ((W.alloc (.cells #[.pointer (some ⟨fb,0,none⟩)] 44)).alloc (.cells #[.int .i64 (x:Int),.slice xa rn xc,.int .i64 r.lv,.int .i64 r.a] 47)) (.cells #[.int .i64 ((n:Int)+(x:Int))] 3)
  rw [s2] at this
  exact qf (qb _ _) this
 have k5:((((W.alloc (.cells #[.pointer (some ⟨fb,0,none⟩)] 44)).alloc (.cells #[.int .i64 (x:Int),.slice xa rn xc,.int .i64 r.lv,.int .i64 r.a] 47)).alloc (.cells #[.int .i64 ((n:Int)+(x:Int))] 3)).alloc (.cells #[.slice xa rn xc] 26)).heap[W.heap.size+3]?=some (.cells #[.slice xa rn xc] 26 (0,0)):=by
  have:=heap_alloc_new (((W.alloc (.cells #[.pointer (some ⟨fb,0,none⟩)] 44)).alloc (.cells #[.int .i64 (x:Int),.slice xa rn xc,.int .i64 r.lv,.int .i64 r.a] 47)).alloc (.cells #[.int .i64 ((n:Int)+(x:Int))] 3)) (.cells #[.slice xa rn xc] 26)
  rw [s3] at this
  exact this
 have h5:=h.below hbW
 refine (callsIn_wide (n:=3)).1 ?_
 refine callsIn_of_wp_marks Tryz.func45 rfl trivial ?_ rfl
 simp only [Tryz.ntmps45,List.size_toArray,List.length_cons,List.length_nil,Nat.reduceAdd,Nat.reduceSub,Array.replicate_succ,Array.replicate_zero,List.push_toArray,List.append_toArray,List.nil_append,List.cons_append]
 have e1:((W.alloc (.cells #[.pointer (some ⟨fb,0,none⟩)] 44)).alloc (.cells #[.int .i64 (x:Int),.slice xa rn xc,.int .i64 r.lv,.int .i64 r.a] 47)).cell? ⟨fb,1,none⟩=some (.slice (some ⟨p.eb,0,none⟩) n n):=(h.below (qd (qb _ _) (qb _ _))).c1
 gi_wp2_with (first
  | (refine ⟨trivial,?_⟩;gi_at_call 48;refine (callsIn_wide.2 (yw ((W.alloc (.cells #[.pointer (some ⟨fb,0,none⟩)] 44)).alloc (.cells #[.int .i64 (x:Int),.slice xa rn xc,.int .i64 r.lv,.int .i64 r.a] 47)) fb n n x _ e1 hn1 hxn)).mono ?_;rintro e w' ⟨rfl,rfl⟩)
  | (refine ⟨trivial,?_⟩;gi_at_call 71;refine (callsIn_wide.2 (qm6 (((W.alloc (.cells #[.pointer (some ⟨fb,0,none⟩)] 44)).alloc (.cells #[.int .i64 (x:Int),.slice xa rn xc,.int .i64 r.lv,.int .i64 r.a] 47)).alloc (.cells #[.int .i64 ((n:Int)+(x:Int))] 3)) xa rn xc)).mono ?_;rintro e w' ⟨rfl,rfl⟩))
 obtain ⟨W5,hW5⟩:∃ W5,((((W.alloc (.cells #[.pointer (some ⟨fb,0,none⟩)] 44)).alloc (.cells #[.int .i64 (x:Int),.slice xa rn xc,.int .i64 r.lv,.int .i64 r.a] 47)).alloc (.cells #[.int .i64 ((n:Int)+(x:Int))] 3)).alloc (.cells #[.slice xa rn xc] 26))=W5:=⟨_,rfl⟩
 rw [hW5] at hbW s4 k2 k3 k4 k5 h5 ⊢
 have HP:Hid ((∀ k,FK fb p k->k<W.heap.size)/\w.heap.size<=W.heap.size):=⟨fun k hk=>(h.lt hk).2.1,hb.size⟩
 clear hW5 s1 s2 s3 e1
 obtain ⟨b2,hb2⟩:∃ b2,W.heap.size=b2:=⟨_,rfl⟩
 have HB2:Hid (W.heap.size=b2):=hb2
 have hbw5:Below w.heap.size w W5:=qd hb hbW
 rw [hb2] at s4 k2 k3 k4 k5 ⊢
 have HBX:Hid (∀ (V:World) (p':FP),LkW W5 (b2+2) fb p V p'->V.cell? ⟨b2,0,none⟩=some (.pointer (some ⟨fb,0,none⟩))/\¬ FK fb p' (b2+2)/\¬ FK fb p' (b2+2+1)/\Below w.heap.size w V):=fun V p' hV=>by
  have hk2:V.heap[b2]?=some (.cells #[.pointer (some ⟨fb,0,none⟩)] 44 (0,0)):=by
   rw [hV.1.block b2 (by omega) (fun e=>e.elim (fun e=>by have:=HP.out.1 _ e;rw [HB2.out] at this;omega) (fun e=>by omega))]
   exact k2
  refine ⟨by rw [qe hk2];rfl,hV.out HP.out.1 (by rw [HB2.out];omega) (by omega),hV.out HP.out.1 (by rw [HB2.out];omega) (by omega),hbw5.trans (hV.1.below hbw5.size (fun k hk e=>e.elim (fun e=>?_) (fun e=>?_)))⟩
  ·have:=(h.lt e).1;omega
  ·have:=HP.out.2;rw [HB2.out] at this;omega
 have HRR:Hid (∀ V,Below w.heap.size W5 V->Row V 1 xa rn xc (natC r.r)):=fun V hV=>by
  have h6:=hbw5.trans hV
  rw [<-HN.out]
  exact ⟨hrow.len,hrow.le,hrow.max,hrow.lies.imp id fun ⟨b,o,he,hc⟩=>⟨b,o,he,fun j u hu=>qj h6 (hc j u hu)⟩⟩
 have HL0:Hid (LI w W5 (b2+2) fb n hn0 p E S x r WL [] W5):=⟨p,WL,n+x,rfl,h5,⟨Kept.refl _ _,fun _ e=>.inl e⟩,k4,by omega,hI,hn,by simp,by simp,fun _=>FB.begin hI hM hxn hn⟩
 have HE:Hid ((∀ z,isF E z=true↔Nul S z)/\S.rs[i]?=some r/\Rlk S n r x/\0<i):=⟨hE,hi,hk,h0⟩
 have HZ:Hid (2 * n<=WL.length/\WL.length<=50000/\tot WL<=90000):=⟨hn,hwl,htot⟩
 have hzn:∀ z∈r.r,z<n:=fun z hz=>(hk.sy z hz).1
 have hzn':Hid (∀ z∈r.r,z<n):=hzn
 refine wpIn_rangeFunc_ownG rfl (by omega) (gf:=79) (lb:=#[.pointer (some ⟨b2+2+1,0,none⟩)]) rfl trivial (enters_of Tryz.func79 (by kernel_rfl) rfl)
  (qom Fence.wide _ trivial rfl (by omega) (b2+2+1) w.heap.size rn xc n hn0 xa r.r HN.out (by omega) hxc hzn W5 hbw5.size k5 HRR.out) qcl (qsr hbw5.size) (Below.refl _ _) (fun _=>rfl)
  (LI w W5 (b2+2) fb n hn0 p E S x r WL) (fun _ _ _=>False) (LI.own w W5 (b2+2) fb n hn0 p E S x r WL) (fun _ _ _ _ _ hs _ _=>hs) HL0.out
  (fun xx=>{ tmps:=#[.pointer (some ⟨fb,0,none⟩),.agg #[.int .i64 (x:Int),.slice xa rn xc,.int .i64 r.lv,.int .i64 r.a],.pointer (some ⟨b2,0,none⟩),.pointer (some ⟨b2+1,0,none⟩),.pointer (some ⟨b2+2,0,none⟩),undef,.int .i64 (xx.2.val:Int),.pointer (some ⟨fb,0,none⟩),.pointer (some ⟨b2+1,0,none⟩),.int .i64 (x:Int),.int .i64 ((n:Int)+(x:Int)),.pointer (some ⟨b2+1,1,none⟩),.slice xa rn xc,.func (.func 79) #[] #[.pointer (some ⟨b2+2+1,0,none⟩)],.int .i64 (xx.1:Int),.int .i64 (xx.2.val:Int),undef,undef,undef,undef,undef,undef,undef,undef,undef,undef,undef,undef,undef,undef,undef,undef,undef,undef,undef,undef,undef],defers:=[] }) ?assign ?body ?done ?stop
 case assign =>
  intro l xx V K hK
  unfold encB
  gi_wp2
  exact hK
 case body =>
  clear h hb hE hi hk h0 hrow hI hM hn hwl htot hbW k2 k3 k4 k5 h5 HL0 hzn HRR
  rintro l pre ⟨ix,⟨y,hy⟩⟩ V hLI hlen
  have HLI:Hid (LI w W5 (b2+2) fb n hn0 p E S x r WL pre V):=hLI
  obtain ⟨p1,WL1,q,h1,h2,h3,h4,h5,h6,h7,h8,h9,h10⟩:=hLI
  obtain ⟨c2,nb4,nbs,hbV⟩:=HBX.out V p1 h3
  have f0:=h2.c0
  have f1:=h2.c1
  have c4:V.cell? ⟨b2+2,0,none⟩=some (.int .i64 (q:Int)):=by rw [qe h4];rfl
  by_cases ht:S.tk<y
  ·have hd:decide ((S.tk:Int)<(y:Int)/\(y:Int)<(n:Int))=true:=by rw [decide_eq_true_eq];omega
   obtain ⟨m,hm⟩:∃ m,WL1[n+y]?=some m:=⟨WL1[n+y]'(by omega),List.getElem?_eq_getElem _⟩
   have hD2:=h2.below (qk V)
   have HL47:Hid (Calls Tryz.prog 47 #[.pointer (some ⟨fb,0,none⟩),.int .i64 ((n+y:Nat):Int),.int .i64 (q:Int)] V.drew fun e W'=>e=.returned (.tuple #[])/\∃ p',p'.eb=p1.eb/\FM W' w.heap.size fb p' n S.tk E (WL1.set (n+y) (m++[q]))/\FV V.drew fb p1 W' p'):=qdf V.drew w.heap.size fb n S.tk p1 E WL1 hD2 hbV.size (n+y) q m hm (by have:=qf4 hm;have:=HZ.out.2.2;omega)
   have HB48:Hid (Calls Tryz.prog 48 #[.pointer (some ⟨fb,0,none⟩),.int .i64 (y:Int)] V.drew fun e w'=>e=.returned (.int .i64 ((n+y:Nat):Int))/\w'=V.drew):=yw V.drew fb n n y _ hD2.c1 hn1 hy
   have HN1:Hid (∀ U p2,p2.eb=p1.eb->FM U w.heap.size fb p2 n S.tk E (WL1.set (n+y) (m++[q]))->FV V.drew fb p1 U p2->LM w W5 (b2+2) fb n hn0 p E S x r WL pre (ix,⟨y,hy⟩) U/\KeepsOthers V U/\KpB w.heap.size (b2+2+1) V U):=fun U p2 t1 t2 t3=>by
    have t3':FV V fb p1 U p2:=⟨(show Kept (FK fb p1) V V.drew from (Kept.refl _ V).drew).trans t3.1 (fun _ _ e=>e),t3.2⟩
    refine ⟨⟨p2,_,q,t1.trans h1,t2,h3.move t3',by rw [t3'.1.block _ (Array.getElem?_eq_some_iff.1 h4).1 nb4];exact h4,by rw [List.length_set];exact h5,qet h6 hm h5,by rw [List.length_set];exact h7,by rw [List.length_set];exact h8,by rw [qcu hm];omega,fun hpre=>?_⟩,FV.others h2 t3',KpB.move h2 hbV.size t3' nbs⟩
    have hyt:=qau (by rw [HN.out];exact hlen) hzn'.out hpre
    have hFB:=h10 hyt.1
    have e1:r.r.length - pre.length=r.r.length - (pre.length+1)+1:=by have:=HN.out;omega
    rw [e1] at hFB
    exact hFB.lay HE.out.2.2.2 HE.out.2.1 HE.out.2.2.1.l hyt.2 ht hy hm
   have hmx:Tryz.prog.follows .mixedOrders=true:=by kernel_rfl
   clear h1 h2 h3 h4 h5 h6 h7 h8 h9 h10 hm HLI hD2 nb4 nbs hbV
   gi_wp2_with (refine ⟨trivial,?_⟩;gi_at_call 46;refine (CallsIn.inRound l (callsIn_wide.2 (jt V fb S.tk n n (some ⟨p1.eb,0,none⟩) f0 f1 (y:Int)))).mono ?_;rintro e w1 ⟨rfl,h46⟩;rw [h46];clear h46 w1;rw [hd];clear hd)
   clear f0 f1
   gi_region_with_o (first
    | (refine ⟨trivial,?_⟩;gi_at_call 48;refine (CallsIn.inRound l (callsIn_wide.2 HB48.out)).mono ?_;rintro e w2 ⟨rfl,rfl⟩)
    | (refine ⟨trivial,?_⟩;gi_at_call 47;refine (CallsIn.inRound l (callsIn_wide.2 HL47.out)).mono ?_;rintro e U ⟨rfl,p2,t1,t2,t3⟩;obtain ⟨hM1,hM2⟩:=HN1.out U p2 t1 t2 t3;have HM:Hid (LM w W5 (b2+2) fb n hn0 p E S x r WL pre (ix,⟨y,hy⟩) U):=hM1;have HO:Hid (KeepsOthers _ U/\KpB w.heap.size (b2+2+1) _ U):=hM2;clear hM1 hM2 t1 t2 t3))
   all_goals
    obtain ⟨p2,WL2,q2,g1,g2,g3,g4,g5,g6,g7,g8,g9,g10⟩:=HM.out
    obtain ⟨d2,mb4,mbs,hbU⟩:=HBX.out U p2 g3
    have d0:=g2.c0
    have d1:=g2.c1
    have d4:U.cell? ⟨b2+2,0,none⟩=some (.int .i64 (q2:Int)):=by rw [qe g4];rfl
    have e4:=qi g4 0
    have dy:=g2.ce hy
    have hyn:(y:Int)<(n:Int):=by omega
    cases hf:isF E y
    ·rw [hf] at dy
     have HF:Hid (KeepsFrom W5.heap.size V (U.setCell ⟨b2+2,0,none⟩ (.int .i64 (y:Int)))/\KpB w.heap.size (b2+2+1) V (U.setCell ⟨b2+2,0,none⟩ (.int .i64 (y:Int)))/\LI w W5 (b2+2) fb n hn0 p E S x r WL (pre++[(ix,⟨y,hy⟩)]) (U.setCell ⟨b2+2,0,none⟩ (.int .i64 (y:Int)))):=by
      refine ⟨(HO.out.1.trans (KeepsOthers.setCell _ _ _)).from _,qcl HO.out.2 (KpB.store (by rw [<-HB2.out];have:=HP.out.2;omega) (by omega) _),p2,WL2,y,g1,g2.store mb4 _,g3.store _,qcm g4 _,by omega,g6,g7,by rw [List.length_append];simp;omega,by rw [List.length_append];simp;omega,fun hpre=>?_⟩
      rw [List.length_append] at hpre ⊢
      simp only [List.length_singleton] at hpre ⊢
      have hyt:=qau (by rw [HN.out];exact hlen) hzn'.out hpre
      exact (g10 hpre).sym (fun e=>by rw [<-HE.out.1,hf] at e;cases e) hy (HE.out.2.2.1.sy y (List.mem_of_getElem? hyt.2)).2 (by have:=HZ.out.1;omega)
     clear g1 g2 g3 g4 g5 g6 g7 g8 g9 g10 HM HO hf
     gi_wp2
     exact HF.out
    ·rw [hf] at dy
     have HK72:Hid (Calls Tryz.prog 72 #[.pointer (some ⟨fb,0,none⟩),.int .i64 (y:Int),.int .i64 (q2:Int)] U fun e W'=>e=.returned (.int .i64 (WL2.length:Int))/\∃ p',p'.eb=p2.eb/\FM W' w.heap.size fb p' n S.tk E (WL2++[[y,q2]])/\FV U fb p2 W' p'):=qe5 U w.heap.size fb n S.tk p2 E WL2 g2 hbU.size y q2 (by have:=HZ.out.2.1;omega)
     have HU:Hid (FM U w.heap.size fb p2 n S.tk E WL2/\∀ U3 p3 (L:Nat),p3.eb=p2.eb->FM U3 w.heap.size fb p3 n S.tk E (WL2++[[y,q2]])->FV U fb p2 U3 p3->L=WL2.length->U3.cell? ⟨b2+2,0,none⟩=some (.int .i64 (q2:Int))/\U3.frozen? ⟨b2+2,0,none⟩=false/\KeepsFrom W5.heap.size V (U3.setCell ⟨b2+2,0,none⟩ (.int .i64 (L:Int)))/\KpB w.heap.size (b2+2+1) V (U3.setCell ⟨b2+2,0,none⟩ (.int .i64 (L:Int)))/\LI w W5 (b2+2) fb n hn0 p E S x r WL (pre++[(ix,⟨y,hy⟩)]) (U3.setCell ⟨b2+2,0,none⟩ (.int .i64 (L:Int)))):=by
      refine ⟨g2,fun U3 p3 L t1 t2 t3 t4=>?_⟩
      subst t4
      have t4:U3.heap[b2+2]?=some (.cells #[.int .i64 (q2:Int)] 3 (0,0)):=by rw [t3.1.block _ (Array.getElem?_eq_some_iff.1 g4).1 mb4];exact g4
      have t5:=g3.move t3
      have mb4':=(HBX.out U3 p3 t5).2.1
      refine ⟨by rw [qe t4];rfl,qi t4 0,((HO.out.1.trans (FV.others g2 t3)).trans (KeepsOthers.setCell _ _ _)).from _,qcl HO.out.2 (qcl (KpB.move g2 hbU.size t3 mbs) (KpB.store (by rw [<-HB2.out];have:=HP.out.2;omega) (by omega) _)),p3,WL2++[[y,q2]],WL2.length,t1.trans g1,t2.store mb4' _,t5.store _,qcm t4 _,by rw [List.length_append];simp,qfi g6 (fun z hz=>?_),by rw [List.length_append];omega,by rw [List.length_append,List.length_append];simp;omega,by rw [qfh,List.length_append];simp;omega,fun hpre=>?_⟩
      ·rcases List.mem_cons.1 hz with rfl | hz
       ·omega
       ·rw [List.mem_singleton] at hz
        subst hz
        exact g5
      ·rw [List.length_append] at hpre ⊢
       simp only [List.length_singleton] at hpre ⊢
       have hyt:=qau (by rw [HN.out];exact hlen) hzn'.out hpre
       exact (g10 hpre).fork ((HE.out.1 y).1 hf) hy (HE.out.2.2.1.sy y (List.mem_of_getElem? hyt.2)).2 HZ.out.1
     clear g1 g2 g3 g4 g5 g6 g7 g8 g9 g10 HM HO hf mb4 mbs hbU
     gi_wp2_with (refine ⟨trivial,?_⟩;gi_at_call 72;refine (CallsIn.inRound l (callsIn_wide.2 HK72.out)).mono ?_;rintro e U3 ⟨rfl,p3,t1,t2,t3⟩;obtain ⟨v4,z4,hfin⟩:=HU.out.2 U3 p3 _ t1 t2 t3 rfl)
     exact hfin
  ·have hd:decide ((S.tk:Int)<(y:Int)/\(y:Int)<(n:Int))=false:=by rw [decide_eq_false_iff_not];omega
   have HM:Hid (LM w W5 (b2+2) fb n hn0 p E S x r WL pre (ix,⟨y,hy⟩) V):=by
    refine ⟨p1,WL1,q,h1,h2,h3,h4,h5,h6,h7,h8,by omega,fun hpre=>?_⟩
    have hyt:=qau (by rw [HN.out];exact hlen) hzn'.out hpre
    have hFB:=h10 hyt.1
    have e1:r.r.length - pre.length=r.r.length - (pre.length+1)+1:=by have:=HN.out;omega
    rw [e1] at hFB
    exact hFB.skip hyt.2 ht
   have HO:Hid (KeepsOthers V V/\KpB w.heap.size (b2+2+1) V V):=⟨KeepsOthers.refl _,KpB.refl _ _ _⟩
   have HLEFT:Hid (Calls Tryz.prog 46 #[.pointer (some ⟨fb,0,none⟩),.int .i64 (y:Int)] V fun e w'=>e=.returned (.bool false)/\w'=V):=by
    rw [<-hd]
    exact jt V fb S.tk n n (some ⟨p1.eb,0,none⟩) f0 f1 (y:Int)
   clear h1 h2 h3 h4 h5 h6 h7 h8 h9 h10 HLI nb4 nbs hbV f0 f1 hd c4 c2
   obtain ⟨p2,WL2,q2,g1,g2,g3,g4,g5,g6,g7,g8,g9,g10⟩:=HM.out
   obtain ⟨d2,mb4,mbs,hbU⟩:=HBX.out V p2 g3
   have d0:=g2.c0
   have d1:=g2.c1
   have d4:V.cell? ⟨b2+2,0,none⟩=some (.int .i64 (q2:Int)):=by rw [qe g4];rfl
   have e4:=qi g4 0
   have dy:=g2.ce hy
   have hyn:(y:Int)<(n:Int):=by omega
   cases hf:isF E y
   ·rw [hf] at dy
    have HF:Hid (KeepsFrom W5.heap.size V (V.setCell ⟨b2+2,0,none⟩ (.int .i64 (y:Int)))/\KpB w.heap.size (b2+2+1) V (V.setCell ⟨b2+2,0,none⟩ (.int .i64 (y:Int)))/\LI w W5 (b2+2) fb n hn0 p E S x r WL (pre++[(ix,⟨y,hy⟩)]) (V.setCell ⟨b2+2,0,none⟩ (.int .i64 (y:Int)))):=by
     refine ⟨(HO.out.1.trans (KeepsOthers.setCell _ _ _)).from _,qcl HO.out.2 (KpB.store (by rw [<-HB2.out];have:=HP.out.2;omega) (by omega) _),p2,WL2,y,g1,g2.store mb4 _,g3.store _,qcm g4 _,by omega,g6,g7,by rw [List.length_append];simp;omega,by rw [List.length_append];simp;omega,fun hpre=>?_⟩
     rw [List.length_append] at hpre ⊢
     simp only [List.length_singleton] at hpre ⊢
     have hyt:=qau (by rw [HN.out];exact hlen) hzn'.out hpre
     exact (g10 hpre).sym (fun e=>by rw [<-HE.out.1,hf] at e;cases e) hy (HE.out.2.2.1.sy y (List.mem_of_getElem? hyt.2)).2 (by have:=HZ.out.1;omega)
    clear g1 g2 g3 g4 g5 g6 g7 g8 g9 g10 HM HO hf
    gi_wp2_with (refine ⟨trivial,?_⟩;gi_at_call 46;refine (CallsIn.inRound l (callsIn_wide.2 HLEFT.out)).mono ?_;rintro e w1 ⟨rfl,h46⟩;rw [h46];clear h46 w1)
    exact HF.out
   ·rw [hf] at dy
    have HK72:Hid (Calls Tryz.prog 72 #[.pointer (some ⟨fb,0,none⟩),.int .i64 (y:Int),.int .i64 (q2:Int)] V fun e W'=>e=.returned (.int .i64 (WL2.length:Int))/\∃ p',p'.eb=p2.eb/\FM W' w.heap.size fb p' n S.tk E (WL2++[[y,q2]])/\FV V fb p2 W' p'):=qe5 V w.heap.size fb n S.tk p2 E WL2 g2 hbU.size y q2 (by have:=HZ.out.2.1;omega)
    have HU:Hid (FM V w.heap.size fb p2 n S.tk E WL2/\∀ U3 p3 (L:Nat),p3.eb=p2.eb->FM U3 w.heap.size fb p3 n S.tk E (WL2++[[y,q2]])->FV V fb p2 U3 p3->L=WL2.length->U3.cell? ⟨b2+2,0,none⟩=some (.int .i64 (q2:Int))/\U3.frozen? ⟨b2+2,0,none⟩=false/\KeepsFrom W5.heap.size V (U3.setCell ⟨b2+2,0,none⟩ (.int .i64 (L:Int)))/\KpB w.heap.size (b2+2+1) V (U3.setCell ⟨b2+2,0,none⟩ (.int .i64 (L:Int)))/\LI w W5 (b2+2) fb n hn0 p E S x r WL (pre++[(ix,⟨y,hy⟩)]) (U3.setCell ⟨b2+2,0,none⟩ (.int .i64 (L:Int)))):=by
     refine ⟨g2,fun U3 p3 L t1 t2 t3 t4=>?_⟩
     subst t4
     have t4:U3.heap[b2+2]?=some (.cells #[.int .i64 (q2:Int)] 3 (0,0)):=by rw [t3.1.block _ (Array.getElem?_eq_some_iff.1 g4).1 mb4];exact g4
     have t5:=g3.move t3
     have mb4':=(HBX.out U3 p3 t5).2.1
     refine ⟨by rw [qe t4];rfl,qi t4 0,((HO.out.1.trans (FV.others g2 t3)).trans (KeepsOthers.setCell _ _ _)).from _,qcl HO.out.2 (qcl (KpB.move g2 hbU.size t3 mbs) (KpB.store (by rw [<-HB2.out];have:=HP.out.2;omega) (by omega) _)),p3,WL2++[[y,q2]],WL2.length,t1.trans g1,t2.store mb4' _,t5.store _,qcm t4 _,by rw [List.length_append];simp,qfi g6 (fun z hz=>?_),by rw [List.length_append];omega,by rw [List.length_append,List.length_append];simp;omega,by rw [qfh,List.length_append];simp;omega,fun hpre=>?_⟩
     ·rcases List.mem_cons.1 hz with rfl | hz
      ·omega
      ·rw [List.mem_singleton] at hz
       subst hz
       exact g5
     ·rw [List.length_append] at hpre ⊢
      simp only [List.length_singleton] at hpre ⊢
      have hyt:=qau (by rw [HN.out];exact hlen) hzn'.out hpre
      exact (g10 hpre).fork ((HE.out.1 y).1 hf) hy (HE.out.2.2.1.sy y (List.mem_of_getElem? hyt.2)).2 HZ.out.1
    clear g1 g2 g3 g4 g5 g6 g7 g8 g9 g10 HM HO hf mb4 mbs hbU
    gi_wp2_with (first | (refine ⟨trivial,?_⟩;gi_at_call 46;refine (CallsIn.inRound l (callsIn_wide.2 HLEFT.out)).mono ?_;rintro e w1 ⟨rfl,h46⟩;rw [h46];clear h46 w1) | (refine ⟨trivial,?_⟩;gi_at_call 72;refine (CallsIn.inRound l (callsIn_wide.2 HK72.out)).mono ?_;rintro e U3 ⟨rfl,p3,t1,t2,t3⟩;obtain ⟨v4,z4,hfin⟩:=HU.out.2 U3 p3 _ t1 t2 t3 rfl))
    exact hfin
 case done =>
  rintro D ys V hD rfl hLI hK
  obtain ⟨p1,WL1,q,h1,h2,h3,h4,h5',h6,h7,h8,h9,h10⟩:=hLI
  rw [qhm] at h10
  have hFB:=h10 rfl
  rw [HN.out,Nat.sub_self] at hFB
  have hgp:Below W5.heap.size V (V.putObj D (.deferred none)):=(Below.refl _ V).grown (grownBy_putObj' V D _) (by have:=h3.1.size;exact this) (fun k e=>by cases e;exact hD)
  have HF:Hid (∃ p',p'.eb=p.eb/\∃ WL',FM (V.putObj D (.deferred none)) w.heap.size fb p' n S.tk E WL'/\FV W fb p (V.putObj D (.deferred none)) p'/\∃ q,FB S n x r.r WL WL' 0 q):=by
   refine ⟨p1,h1,WL1,h2.keep (fun k hk=>World.putObj_heap_other (fun e=>?_)),⟨⟨hgp.os.trans (h3.1.os.trans hbW.os),hgp.tape.trans (h3.1.tape.trans hbW.tape),hgp.output.trans (h3.1.output.trans hbW.output),Nat.le_trans hbW.size (Nat.le_trans h3.1.size hgp.size),fun k hk hne=>?_⟩,fun k hk=>?_⟩,q,hFB⟩
   ·have key:∀ {T:Nat},Loc V k T->False:=fun ⟨cur,hc⟩=>by
     rw [e,hK] at hc
     cases hc
    rcases (h2.lt hk).2.2 with e | e | e | e <;> exact key e
   ·have hk':k<b2:=by rw [<-HB2.out];exact hk
    rw [hgp.block k (by omega),h3.1.block k (by omega) (fun e=>e.elim hne (fun e=>by omega)),hbW.block k hk]
   ·rcases h3.2 k hk with e | e
    ·exact .inl e
    ·exact .inr (by rw [HB2.out];omega)
  clear h1 h2 h3 h4 h5' h6 h7 h8 h9 h10 hFB hgp
  gi_wp2
  refine ⟨by simp,.inl ⟨_,_,rfl,run_takeDeferred hK,?_⟩⟩
  exact ⟨_,results_none rfl _ _ _,rfl,HF.out⟩
 case stop =>
  rintro D c pre V _ _ hf _
  exact hf.elim
end Go.Proofs.YtngclmglmhiljaaGreatDoor
namespace Go.Proofs.YtngclmglmhiljaaGreatDoor
open Go.RowKit
def q9:List ByteArray->ByteArray->Option Nat
 | [],_=>none
 | x :: r,s=>if x=s then some 0 else (q9 r s).map (·+1)
theorem qdg {s:ByteArray}:∀ {l:List ByteArray} {k:Nat} {x:ByteArray},(∀ (i:Nat) (y:ByteArray),i<k->l[i]?=some y->y≠s)->l[k]?=some x->x=s->q9 l s=some k
 | [],k,x,_,h,_=>by cases h
 | u :: r,0,x,_,h,he=>by
  cases h
  unfold q9
  rw [if_pos he]
 | u :: r,k+1,x,hb,h,he=>by
  unfold q9
  rw [if_neg (hb 0 u (by omega) rfl),qdg (k:=k) (x:=x) (fun i y hi hy=>hb (i+1) y (by omega) (by simpa using hy)) (by simpa using h) he]
  rfl
theorem qbq {s:ByteArray}:∀ {l:List ByteArray},(∀ (i:Nat) (y:ByteArray),l[i]?=some y->y≠s)->q9 l s=none
 | [],_=>rfl
 | u :: r,hb=>by
  unfold q9
  rw [if_neg (hb 0 u rfl),qbq (l:=r) (fun i y hy=>hb (i+1) y (by simpa using hy))]
  rfl
theorem jz {s:ByteArray}:∀ {l:List ByteArray},(q9 l s).isSome=true↔s∈l
 | []=>by simp [q9]
 | u :: r=>by
  unfold q9
  split
  ·rename_i h;subst h;simp
  ·rename_i h
   rw [Option.isSome_map,jz]
   constructor
   ·intro h1;exact List.mem_cons_of_mem _ h1
   ·intro h1
    rcases List.mem_cons.1 h1 with h2 | h2
    ·exact absurd h2.symm h
    ·exact h2
theorem qh5 {s:ByteArray}:∀ {l:List ByteArray} {k:Nat},q9 l s=some k->l[k]?=some s
 | [],k,h=>by cases h
 | u :: r,k,h=>by
  unfold q9 at h
  split at h
  ·rename_i e;cases h;subst e;rfl
  ·obtain ⟨j,hj,rfl⟩:=Option.map_eq_some_iff.1 h
   simpa using qh5 hj
theorem qft {s:ByteArray} {l:List ByteArray} {k:Nat} (h:q9 l s=some k):k<l.length:=(List.getElem?_eq_some_iff.1 (qh5 h)).1
theorem qdh (u:ByteArray) (r:List ByteArray) (s:ByteArray):q9 (u :: r) s=if u=s then some 0 else (q9 r s).map (·+1):=rfl
theorem qb7 {s:ByteArray}:∀ (a b:List ByteArray),q9 (a++b) s=match q9 a s with | some k=>some k | none=>(q9 b s).map (·+a.length)
 | [],b=>by simp [q9]
 | u :: r,b=>by
  have ih:=qb7 (s:=s) r b
  rw [List.cons_append,qdh,qdh]
  by_cases h:u=s
  ·rw [if_pos h,if_pos h]
  ·rw [if_neg h,if_neg h,ih]
   cases q9 r s with
   | some k=>rfl
   | none =>
    simp only [Option.map_none]
    cases q9 b s with
    | none=>rfl
    | some j=>simp [Nat.add_assoc]
def qh6 (F:FuncId):Prop:=∀ (l:List ByteArray) (ao:Option Addr) (cap:Nat) (s:ByteArray) (w:World),Row w 1 ao l.length cap (strC l)->l.length<=10000->Calls Tryz.prog F #[.slice ao l.length cap,.string s] w fun e w'=>e=.returned (.int .i64 (idxI (q9 l s)))/\w'=w
theorem qa1:qh6 84:=by
 intro l ao cap s w hr hl
 have hle:=ze hr
 have HR:Hid (Row w 1 ao l.length cap (strC l)):=hr
 clear hr
 obtain ⟨n,HN⟩:∃ n,Hid (l.length=n):=⟨_,rfl⟩
 rw [HN.out] at hle hl HR ⊢
 go_enter Tryz.func84,Tryz.ntmps84
 go_wp2_with fail
 go_loopg [8] n (fun kx s8 wr=>∃ k:Nat,s8=.int .i64 k/\k<=n/\n - k<=kx/\Hid (wr=w/\∀ (i:Nat) (y:ByteArray),i<k->l[i]?=some y->y≠s))
 case atStart=>exact ⟨0,rfl,Nat.zero_le _,by omega,(⟨rfl,fun i y hi=>absurd hi (Nat.not_lt_zero _)⟩:w=w/\∀ (i:Nat) (y:ByteArray),i<0->l[i]?=some y->y≠s)⟩
 case round =>
  obtain ⟨k,rfl,hk,hg,J⟩:=hrel
  obtain ⟨hwr,hJ⟩:=J.out
  subst hwr
  have HJ:Hid (∀ (i:Nat) (y:ByteArray),i<k->l[i]?=some y->y≠s):=hJ
  clear J hJ
  by_cases hlt:k<n
  ·have hlt':(k:Int)<(n:Int):=by omega
   obtain ⟨x,hx⟩:∃ x,l[k]?=some x:=⟨l[k]'(by rw [HN.out];exact hlt),List.getElem?_eq_getElem _⟩
   obtain ⟨b,o,hao,c0⟩:=jm HR.out hx
   subst hao
   have HX:Hid (l[k]?=some x):=hx
   clear hx
   by_cases he:x=s
   ·have hb:=xh he.symm
    have HF:Hid (idxI (q9 l s)=(k:Int)):=by
     show _=_
     rw [qdg HJ.out HX.out he]
     rfl
    clear he
    go_wp2_with fail
    go_ret
    exact ⟨by rw [HF.out];rfl,rfl⟩
   ·have hb:=k9 (fun e=>he e.symm:s≠x)
    have HF:Hid (∀ (i:Nat) (y:ByteArray),i<k+1->l[i]?=some y->y≠s):=fun i y hi hy=>by
     rcases Nat.lt_or_ge i k with h | h
     ·exact HJ.out i y h hy
     ·have:i=k:=by omega
      subst this
      rw [HX.out] at hy
      cases hy
      exact he
    clear he
    go_wp2_with fail
    go_roundg (n - (k+1))
    case measure=>omega
    case rel=>exact ⟨k+1,by simp,by omega,Nat.le_refl _,(⟨rfl,HF.out⟩:wr=wr/\∀ (i:Nat) (y:ByteArray),i<k+1->l[i]?=some y->y≠s)⟩
  ·have hlt':¬ (k:Int)<(n:Int):=by omega
   have HF:Hid (idxI (q9 l s)=-1):=by
    show _=_
    rw [qbq (fun i y hy=>HJ.out i y (by have:=(List.getElem?_eq_some_iff.1 hy).1;rw [HN.out] at this;omega) hy)]
    rfl
   go_wp2_with fail
   go_ret
   exact ⟨by rw [HF.out];rfl,rfl⟩
theorem qa2:qh6 32:=by
 intro l ao cap s w hr hl
 have hle:=ze hr
 have HR:Hid (Row w 1 ao l.length cap (strC l)):=hr
 clear hr
 obtain ⟨n,HN⟩:∃ n,Hid (l.length=n):=⟨_,rfl⟩
 rw [HN.out] at hle hl HR ⊢
 go_enter Tryz.func32,Tryz.ntmps32
 go_wp2_with fail
 go_loopg [5] n (fun kx s5 wr=>∃ k:Nat,s5=.int .i64 k/\k<=n/\n - k<=kx/\Hid (wr=w/\∀ (i:Nat) (y:ByteArray),i<k->l[i]?=some y->y≠s))
 case atStart=>exact ⟨0,rfl,Nat.zero_le _,by omega,(⟨rfl,fun i y hi=>absurd hi (Nat.not_lt_zero _)⟩:w=w/\∀ (i:Nat) (y:ByteArray),i<0->l[i]?=some y->y≠s)⟩
 case round =>
  obtain ⟨k,rfl,hk,hg,J⟩:=hrel
  obtain ⟨hwr,hJ⟩:=J.out
  subst hwr
  have HJ:Hid (∀ (i:Nat) (y:ByteArray),i<k->l[i]?=some y->y≠s):=hJ
  clear J hJ
  by_cases hlt:k<n
  ·have hlt':(k:Int)<(n:Int):=by omega
   obtain ⟨x,hx⟩:∃ x,l[k]?=some x:=⟨l[k]'(by rw [HN.out];exact hlt),List.getElem?_eq_getElem _⟩
   obtain ⟨b,o,hao,c0⟩:=jm HR.out hx
   subst hao
   have HX:Hid (l[k]?=some x):=hx
   clear hx
   by_cases he:x=s
   ·have hb:=xh he
    have HF:Hid (idxI (q9 l s)=(k:Int)):=by
     show _=_
     rw [qdg HJ.out HX.out he]
     rfl
    clear he
    go_wp2_with fail
    go_ret
    exact ⟨by rw [HF.out];rfl,rfl⟩
   ·have hb:=k9 he
    have HF:Hid (∀ (i:Nat) (y:ByteArray),i<k+1->l[i]?=some y->y≠s):=fun i y hi hy=>by
     rcases Nat.lt_or_ge i k with h | h
     ·exact HJ.out i y h hy
     ·have:i=k:=by omega
      subst this
      rw [HX.out] at hy
      cases hy
      exact he
    clear he
    go_wp2_with fail
    go_roundg (n - (k+1))
    case measure=>omega
    case rel=>exact ⟨k+1,by simp,by omega,Nat.le_refl _,(⟨rfl,HF.out⟩:wr=wr/\∀ (i:Nat) (y:ByteArray),i<k+1->l[i]?=some y->y≠s)⟩
  ·have hlt':¬ (k:Int)<(n:Int):=by omega
   have HF:Hid (idxI (q9 l s)=-1):=by
    show _=_
    rw [qbq (fun i y hy=>HJ.out i y (by have:=(List.getElem?_eq_some_iff.1 hy).1;rw [HN.out] at this;omega) hy)]
    rfl
   go_wp2_with fail
   go_ret
   exact ⟨by rw [HF.out];rfl,rfl⟩
theorem qa3 (o:Option Nat):(0<=idxI o)↔o.isSome=true:=by
 cases o with
 | none=>simp [idxI]
 | some k=>simp [idxI]
theorem yu (l:List ByteArray) (ao:Option Addr) (cap:Nat) (s:ByteArray) (w:World) (hr:Row w 1 ao l.length cap (strC l)) (hl:l.length<=10000) (b:Bool) (hb:b=true↔s∈l) :
  Calls Tryz.prog 92 #[.slice ao l.length cap,.string s] w fun e w'=>e=.returned (.bool b)/\w'=w:=by
 have HC:Hid (Calls Tryz.prog 84 #[.slice ao l.length cap,.string s] w fun e w'=>e=.returned (.int .i64 (idxI (q9 l s)))/\w'=w):=qa1 l ao cap s w hr hl
 have HE:Hid (b=true↔0<=idxI (q9 l s)):=by rw [qa3,jz];exact hb
 clear hb hr
 generalize idxI (q9 l s)=z at HC HE
 go_enter Tryz.func92,Tryz.ntmps92
 go_wp2_with fail
 refine HC.out.mono ?_
 rintro e w1 ⟨rfl,rfl⟩
 cases b
 ·have hz:¬ 0<=z:=fun h=>by have:=HE.out.2 h;cases this
  go_wp2_with fail
  go_ret
  exact ⟨by simp [hz],rfl⟩
 ·have hz:0<=z:=HE.out.1 rfl
  go_wp2_with fail
  go_ret
  exact ⟨by simp,rfl⟩
def lfS (l:List ByteArray) (r:Ru):List ByteArray:=if (q9 l r.l).isSome=true then l else l++[r.l]
def lfs (rs:List Ru):List ByteArray:=rs.foldl lfS []
def tkG (G:Gm):List ByteArray:=G.ts.map (·.n)
def nmG (G:Gm):List ByteArray:=tkG G++e0 :: lfs G.rs
def kc (G:Gm):ByteArray:=if G.s=e0 then ((G.rs[0]?).map (·.l)).getD e0 else G.s
def kz (G:Gm):Prop:=12<G.ts.length\/30<G.rs.length\/10<(lfs G.rs).length\/∃ r∈G.rs,6<r.r.length
structure NmP (G:Gm):Prop where
 ne:G.rs≠[]
 tk:∀ t∈G.ts,t.n ∉ lfs G.rs
 pr:∀ r∈G.rs,r.p=e0\/r.p∈tkG G
 rr:∀ r∈G.rs,∀ x∈r.r,x∈tkG G\/x∈lfs G.rs
 st:kc G∈lfs G.rs
def ix (l:List ByteArray) (s:ByteArray):Nat:=(q9 l s).getD 0
def byS (nm:List ByteArray) (tk:Nat) (o:Option Nat) (x:ByteArray):Option Nat:=if ix nm x<tk then some (ix nm x) else o
def byL (G:Gm) (l:List ByteArray):Option Nat:=l.foldl (byS (nmG G) G.ts.length) none
def byG (G:Gm) (r:Ru):Option Nat:=if r.p=e0 then byL G r.r else q9 (tkG G) r.p
def lvO (ts:List Tk) (o:Option Nat):Int:=match o with | some k=>((ts[k]?).map (·.l)).getD 0 | none=>0
def azO (ts:List Tk) (o:Option Nat):Int:=match o with | some k=>((ts[k]?).map (·.a)).getD 0 | none=>0
def ruG (G:Gm) (r:Ru):SR:=⟨(ix (nmG G) r.l:Int),r.r.map (ix (nmG G)),lvO G.ts (byG G r),azO G.ts (byG G r)⟩
def stG (G:Gm):Nat:=G.ts.length+1+ix (lfs G.rs) (kc G)
def sy0 (G:Gm):Sp:=⟨G.ts.length,(lfs G.rs).length,0,G.e,nmG G,G.ts.map (·.l),G.ts.map (·.a),[]⟩
def spG (G:Gm):Sp:=⟨G.ts.length,(lfs G.rs).length,stG G,G.e,nmG G,G.ts.map (·.l),G.ts.map (·.a),⟨-1,[stG G],0,0⟩ :: G.rs.map (ruG G)⟩
def yd (S:Sp):Prop:=∃ x,S.tk<x/\x<S.tk+1+S.nt/\(¬ Der S x\/¬ Rch S x)
def OfR (G:Gm) (k:Int):Prop:=(k=1/\¬ MayP G)\/(k=6/\MayP G/\kz G)\/(k=7/\MayP G/\¬ kz G/\¬ NmP G)\/(k=8/\MayP G/\¬ kz G/\NmP G/\yd (spG G))\/(k=0/\MayP G/\¬ kz G/\NmP G/\¬ yd (spG G))
theorem qp7 (rs:List Ru) (r:Ru):lfs (rs++[r])=lfS (lfs rs) r:=by unfold lfs;rw [List.foldl_append];rfl
theorem qdi {rs:List Ru} {k:Nat} {r:Ru} (h:rs[k]?=some r):lfs (rs.take (k+1))=lfS (lfs (rs.take k)) r:=by rw [zn h,qp7]
theorem qrj {l:List ByteArray} {r:Ru} {x:ByteArray}:x∈lfS l r↔x∈l\/x=r.l:=by
 unfold lfS
 split
 ·rename_i h
  have h:=jz.1 h
  constructor
  ·exact .inl
  ·rintro (h1 | h1)
   ·exact h1
   ·rw [h1];exact h
 ·rw [List.mem_append,List.mem_singleton]
theorem qeg (x:ByteArray):∀ (rs:List Ru) (l:List ByteArray),x∈rs.foldl lfS l↔x∈l\/∃ r∈rs,r.l=x
 | [],l=>by simp
 | r :: rs,l=>by
  rw [List.foldl_cons,qeg x rs,qrj]
  constructor
  ·rintro ((h | h) | ⟨q,hq,h⟩)
   ·exact .inl h
   ·exact .inr ⟨r,by simp,h.symm⟩
   ·exact .inr ⟨q,List.mem_cons_of_mem _ hq,h⟩
  ·rintro (h | ⟨q,hq,h⟩)
   ·exact .inl (.inl h)
   ·rcases List.mem_cons.1 hq with rfl | hq
    ·exact .inl (.inr h.symm)
    ·exact .inr ⟨q,hq,h⟩
theorem qc1 {rs:List Ru} {x:ByteArray}:x∈lfs rs↔∃ r∈rs,r.l=x:=by
 unfold lfs
 rw [qeg]
 simp
theorem qe6:∀ (rs:List Ru) (l:List ByteArray),(rs.foldl lfS l).length<=l.length+rs.length
 | [],l=>by simp
 | r :: rs,l=>by
  rw [List.foldl_cons]
  have:=qe6 rs (lfS l r)
  have h2:(lfS l r).length<=l.length+1:=by
   unfold lfS
   split
   ·omega
   ·simp
  rw [List.length_cons]
  omega
theorem j9 (rs:List Ru):(lfs rs).length<=rs.length:=by
 have:=qe6 rs []
 unfold lfs
 simpa using this
theorem jj (G:Gm):(nmG G).length=G.ts.length+1+(lfs G.rs).length:=by
 unfold nmG tkG
 rw [List.length_append,List.length_map,List.length_cons]
 omega
theorem qhn {s:ByteArray} (h:zp s):s≠e0:=by
 rintro rfl
 unfold zp at h
 have:nameOk (by8 e0)=false:=by kernel_rfl
 rw [this] at h
 cases h
theorem qp8 {G:Gm} (h:MayP G) {x:ByteArray} (hx:x∈lfs G.rs):x≠e0:=by
 obtain ⟨r,hr,rfl⟩:=qc1.1 hx
 exact qhn (h.rl r hr).1
theorem qrk {G:Gm} (h:MayP G) {x:ByteArray} (hx:x∈tkG G):x≠e0:=by
 unfold tkG at hx
 obtain ⟨t,ht,rfl⟩:=List.mem_map.1 hx
 obtain ⟨i,hi⟩:=List.getElem?_of_mem ht
 exact qhn (h.tk.1 i t hi).1
theorem qrl {G:Gm} (h:MayP G) {r:Ru} (hr:r∈G.rs) {x:ByteArray} (hx:x∈r.r):x≠e0:=qhn ((h.rl r hr).2.2.2 x hx)
theorem qdv {l:List ByteArray} {s:ByteArray} (h:s ∉ l):q9 l s=none:=by
 cases hf:q9 l s with
 | none=>rfl
 | some k=>exact absurd (jz.1 (by rw [hf];rfl)) h
theorem yx {l:List ByteArray} {s:ByteArray} (h:s∈l):∃ k,q9 l s=some k:=by
 cases hf:q9 l s with
 | none=>have:=jz.2 h;rw [hf] at this;cases this
 | some k=>exact ⟨k,rfl⟩
theorem qeh {G:Gm} (hm:MayP G) (hn:NmP G) {x:ByteArray} (hx:x∈lfs G.rs):q9 (nmG G) x=some (G.ts.length+1+ix (lfs G.rs) x):=by
 obtain ⟨k,hk⟩:=yx hx
 have h1:q9 (tkG G) x=none:=qdv (fun h=>by
  unfold tkG at h
  obtain ⟨t,ht,rfl⟩:=List.mem_map.1 h
  exact hn.tk t ht hx)
 unfold nmG
 rw [qb7,h1]
 simp only
 rw [qdh,if_neg (fun e=>qp8 hm hx e.symm),hk]
 unfold ix tkG
 rw [hk]
 simp
 omega
theorem qp9 {G:Gm} {x:ByteArray} (hx:x∈tkG G):q9 (nmG G) x=some (ix (tkG G) x)/\ix (tkG G) x<G.ts.length:=by
 obtain ⟨k,hk⟩:=yx hx
 have hl:=qft hk
 unfold nmG ix
 rw [qb7,hk]
 refine ⟨rfl,?_⟩
 unfold tkG at hl
 rw [List.length_map] at hl
 exact hl
theorem qeu {l:List ByteArray} {x:ByteArray} (h:x∈l):ix l x<l.length:=by
 obtain ⟨k,hk⟩:=yx h
 unfold ix
 rw [hk]
 exact qft hk
theorem qc2 {l:List ByteArray} {x:ByteArray} (h:x∈l):q9 l x=some (ix l x):=by
 obtain ⟨k,hk⟩:=yx h
 unfold ix
 rw [hk]
 rfl
theorem qbt {G:Gm} {x:ByteArray} (h:x∈tkG G\/x∈lfs G.rs):x∈nmG G:=by
 unfold nmG
 rcases h with h | h
 ·exact List.mem_append_left _ h
 ·exact List.mem_append_right _ (List.mem_cons_of_mem _ h)
theorem qei {G:Gm} (hm:MayP G) (hl:¬ kz G) (hn:NmP G):WF (spG G):=by
 have hl1:G.ts.length<=12:=by
  rcases Nat.lt_or_ge 12 G.ts.length with h | h
  ·exact absurd (.inl h) hl
  ·exact h
 have hl2:G.rs.length<=30:=by
  rcases Nat.lt_or_ge 30 G.rs.length with h | h
  ·exact absurd (.inr (.inl h)) hl
  ·exact h
 have hl3:(lfs G.rs).length<=10:=by
  rcases Nat.lt_or_ge 10 (lfs G.rs).length with h | h
  ·exact absurd (.inr (.inr (.inl h))) hl
  ·exact h
 have hl4:∀ r∈G.rs,r.r.length<=6:=fun r hr=>by
  rcases Nat.lt_or_ge 6 r.r.length with h | h
  ·exact absurd (.inr (.inr (.inr ⟨r,hr,h⟩))) hl
  ·exact h
 have hst:stG G<G.ts.length+1+(lfs G.rs).length:=by
  have:=qeu hn.st
  unfold stG
  omega
 refine ⟨jj G,by simp [spG],by simp [spG],by show G.ts.length<=100;omega,by show (lfs G.rs).length<=200;omega,by simp [spG];omega,rfl,⟨by show G.ts.length<stG G;unfold stG;omega,hst⟩,?_,?_⟩
 ·intro i r hi hr
  obtain ⟨j,rfl⟩:∃ j,i=j+1:=⟨i - 1,by omega⟩
  have hr:(G.rs.map (ruG G))[j]?=some r:=by simpa [spG] using hr
  rw [List.getElem?_map] at hr
  obtain ⟨q,hq,rfl⟩:=Option.map_eq_some_iff.1 hr
  have hql:q.l∈lfs G.rs:=qc1.2 ⟨q,List.mem_of_getElem? hq,rfl⟩
  refine ⟨ix (nmG G) q.l,rfl,?_⟩
  have h1:=qeh hm hn hql
  have h2:ix (nmG G) q.l=G.ts.length+1+ix (lfs G.rs) q.l:=by
   unfold ix at h1 ⊢
   rw [h1]
   rfl
  have h3:=qeu hql
  show G.ts.length<_/\_<G.ts.length+1+(lfs G.rs).length
  omega
 ·intro r hr
  have hr:r=⟨-1,[stG G],0,0⟩\/r∈G.rs.map (ruG G):=by simpa [spG] using hr
  rcases hr with rfl | hr
  ·refine ⟨by simp,fun y hy=>?_⟩
   have:y=stG G:=by simpa using hy
   subst this
   exact hst
  ·obtain ⟨q,hq,rfl⟩:=List.mem_map.1 hr
   refine ⟨by have:=hl4 q hq;simp [ruG];omega,fun y hy=>?_⟩
   have hy:y∈q.r.map (ix (nmG G)):=hy
   obtain ⟨x,hx,rfl⟩:=List.mem_map.1 hy
   have:=qeu (qbt (hn.rr q hq x hx))
   rw [jj] at this
   exact this
theorem qdj (G:Gm) (l:List ByteArray) (x:ByteArray):byL G (l++[x])=byS (nmG G) G.ts.length (byL G l) x:=by unfold byL;rw [List.foldl_append];rfl
theorem qsb {nm:List ByteArray} {tk:Nat} {o:Option Nat} {x:ByteArray} (h:∀ k,o=some k->k<tk):∀ k,byS nm tk o x=some k->k<tk:=by
 intro k hk
 unfold byS at hk
 split at hk
 ·cases hk;assumption
 ·exact h k hk
theorem qe7 (nm:List ByteArray) (tk:Nat):∀ (l:List ByteArray) (o:Option Nat),(∀ k,o=some k->k<tk)->∀ k,l.foldl (byS nm tk) o=some k->k<tk
 | [],_,h,k,hk=>h k hk
 | x :: l,o,h,k,hk=>qe7 nm tk l (byS nm tk o x) (qsb h) k hk
theorem qsc {G:Gm} {l:List ByteArray} {k:Nat} (h:byL G l=some k):k<G.ts.length:=qe7 _ _ l none (fun k hk=>by cases hk) k h
theorem qon {G:Gm} {r:Ru} {k:Nat} (h:byG G r=some k):k<G.ts.length:=by
 unfold byG at h
 split at h
 ·exact qsc h
 ·have:=qft h
  unfold tkG at this
  rwa [List.length_map] at this
theorem qqa {w:World} {b o n cap k:Nat} {l:List ByteArray} (h:Row w 1 (some ⟨b,o,none⟩) n cap (strC l)) (hk:k<=n):Row w 1 (some ⟨b,o+k,none⟩) (n - k) (cap - k) (strC (l.drop k)):=by
 have hl:=h.len
 have h1:=h.le
 have h2:=h.max
 have hln:l.length=n:=by unfold strC at hl;rw [List.length_map] at hl;omega
 refine ⟨by unfold strC;rw [List.length_map,List.length_drop];omega,by omega,by omega,.inr ⟨b,o+k,rfl,fun j u hu=>?_⟩⟩
 rcases h.lies with ⟨e,-⟩ | ⟨b',o',e,hc⟩
 ·cases e
 ·cases e
  rw [Nat.add_assoc]
  refine hc (k+j) u ?_
  unfold strC at hu ⊢
  rw [List.getElem?_map] at hu ⊢
  rw [List.getElem?_drop] at hu
  exact hu
theorem qej (h:SHd) (S:Sp) (w:World) (hr:Row w 1 h.na S.nm.length h.nc (strC S.nm)) (ht:S.tk<=S.nm.length) :
  Calls Tryz.prog 97 #[sv h S] w fun e w'=>e=.returned (.slice h.na S.tk h.nc)/\Row w' 1 h.na S.tk h.nc (strC (S.nm.take S.tk))/\Below w.heap.size w w':=by
 have hle:=ze hr
 have HR:Hid (∀ w',Below w.heap.size w w'->Row w' 1 h.na S.tk h.nc (strC (S.nm.take S.tk))):=fun w' hb=>by
  have:=(hr.below hb).take S.tk ht
  rw [Nat.mul_one] at this
  unfold strC at this ⊢
  rwa [<-List.map_take] at this
 unfold sv sC
 clear hr
 generalize S.nm.length=n at *
 generalize S.lv.length=ln
 generalize S.az.length=an
 generalize S.rs.length=rn
 have h1:(S.tk:Int)<=(h.nc:Int):=by omega
 go_enter Tryz.func97,Tryz.ntmps97
 go_wp2_with fail
 go_ret
 exact ⟨rfl,HR.out _ (qb _ _),qb _ _⟩
theorem qek (h:SHd) (S:Sp) (w:World) (hr:Row w 1 h.na S.nm.length h.nc (strC S.nm)) (ht:S.tk+1<=S.nm.length) :
  Calls Tryz.prog 93 #[sv h S] w fun e w'=>∃ ao c,e=.returned (.slice ao (S.nm.length - (S.tk+1)) c)/\Row w' 1 ao (S.nm.length - (S.tk+1)) c (strC (S.nm.drop (S.tk+1)))/\Below w.heap.size w w':=by
 have hle:=ze hr
 obtain ⟨b,o,hao,-⟩:=hr.at (by omega)
 rw [hao] at hr
 have HR:Hid (∀ w',Below w.heap.size w w'->Row w' 1 (some ⟨b,o+(S.tk+1),none⟩) (S.nm.length - (S.tk+1)) (h.nc - (S.tk+1)) (strC (S.nm.drop (S.tk+1)))):=fun w' hb=>qqa (hr.below hb) ht
 have HR0:Hid (h.nc=S.tk+1->∀ w',Row w' 1 (some ⟨b,o,none⟩) (S.nm.length - (S.tk+1)) 0 (strC (S.nm.drop (S.tk+1)))):=fun e w'=>by
  have e1:S.nm.length=S.tk+1:=by omega
  have e2:S.nm.drop (S.tk+1)=[]:=List.drop_of_length_le (by omega)
  rw [e2,e1,Nat.sub_self]
  exact ⟨rfl,Nat.le_refl _,Nat.zero_le _,.inr ⟨b,o,rfl,fun j u hu=>by cases hu⟩⟩
 unfold sv sC
 rw [hao]
 clear hr hao
 obtain ⟨n,HN⟩:∃ n,Hid (S.nm.length=n):=⟨_,rfl⟩
 rw [HN.out] at HR HR0 hle ht ⊢
 generalize S.lv.length=ln
 generalize S.az.length=an
 generalize S.rs.length=rn
 have h1:(S.tk:Int)+1<=(n:Int):=by omega
 have h2:(n:Int)<=(h.nc:Int):=by omega
 go_enter Tryz.func93,Tryz.ntmps93
 by_cases hc:h.nc=S.tk+1
 ·have HC:Hid (∀ w',Row w' 1 (some ⟨b,o,none⟩) (n - (S.tk+1)) 0 (strC (S.nm.drop (S.tk+1)))):=HR0.out hc
  clear HR HR0
  go_wp2_with fail
  go_ret
  exact ⟨_,_,rfl,HC.out _,qb _ _⟩
 ·clear HR0
  go_wp2_with fail
  go_ret
  exact ⟨_,_,rfl,HR.out _ (qb _ _),qb _ _⟩
theorem qdw (G:Gm) (h:Hd) (w:World) (hG:IsG w h G) (hs:G.rs≠[]):Calls Tryz.prog 85 #[gv h G] w fun e w'=>e=.returned (.string (kc G))/\Below w.heap.size w w':=by
 obtain ⟨ts,st,ex,rs⟩:=G
 obtain ⟨ta,tc,ra,rc⟩:=h
 simp only at hs
 obtain ⟨r,hr⟩:∃ r,rs[0]?=some r:=by
  cases rs with
  | nil=>exact absurd rfl hs
  | cons a l=>exact ⟨a,rfl⟩
 have hrl:=kj hG.rul
 obtain ⟨b,o,xa,xc,hra,c0,-,-,-⟩:=hG.rul.at hr
 simp only at hra hrl c0
 subst hra
 rw [Nat.zero_mul,Nat.add_zero] at c0
 have hlen:0<rs.length:=(List.getElem?_eq_some_iff.1 hr).1
 have c0':=qo c0
 unfold gv
 simp only
 by_cases he:st=e0
 ·have hb:=(zo st).2 he
  have HF:Hid (kc ⟨ts,st,ex,rs⟩=r.l):=by
   unfold kc
   simp only
   rw [if_pos he,hr]
   rfl
  rw [HF.out]
  generalize r.l=rl at c0' ⊢
  clear hG hr he c0 hs HF
  generalize rs.length=rn at *
  generalize ts.length=tn at *
  have hlen':(0:Int)<(rn:Int):=by omega
  go_enter Tryz.func85,Tryz.ntmps85
  go_wp2_with fail
  go_ret
  exact ⟨rfl,qb _ _⟩
 ·have hb:(st.toList == [])=false:=by
   cases hq:(st.toList == [])
   ·rfl
   ·exact absurd ((zo st).1 hq) he
  have HF:Hid (kc ⟨ts,st,ex,rs⟩=st):=by
   show _=_
   unfold kc
   simp only
   rw [if_neg he]
  rw [HF.out]
  clear hG hr he c0 hs HF c0'
  generalize rs.length=rn at *
  generalize ts.length=tn at *
  go_enter Tryz.func85,Tryz.ntmps85
  go_wp2_with fail
  go_ret
  exact ⟨rfl,qb _ _⟩
theorem qlh (l p:ByteArray) (xa:Option Addr) (n xc:Nat) (w:World):Calls Tryz.prog 95 #[.agg #[.string l,.slice xa n xc,.string p]] w fun e w'=>e=.returned (.bool (decide ((6:Int)<(n:Int))))/\Below w.heap.size w w':=by
 go_enter Tryz.func95,Tryz.ntmps95
 go_wp2_with fail
 go_ret
 exact ⟨rfl,qb _ _⟩
theorem qgo (rs:List Ru) (ao:Option Addr) (cap:Nat) (w:World) (hr:ks w ao rs.length cap rs) (hl:rs.length<=10000) (hs:∀ r∈rs,r.r.length<=1000) :
  Calls Tryz.prog 106 #[.slice ao rs.length cap,.func (.func 95) #[] #[]] w fun e w'=>∃ z:Int,e=.returned (.int .i64 z)/\(0<=z↔∃ r∈rs,6<r.r.length)/\Below w.heap.size w w':=by
 have hle:=kj hr
 have HR:Hid (ks w ao rs.length cap rs/\∀ r∈rs,r.r.length<=1000):=⟨hr,hs⟩
 clear hr hs
 obtain ⟨n,HN⟩:∃ n,Hid (rs.length=n):=⟨_,rfl⟩
 rw [HN.out] at hle hl HR ⊢
 go_enter Tryz.func106,Tryz.ntmps106
 go_wp2_with fail
 go_loopg [8] n (fun kx s8 wr=>∃ k:Nat,s8=.int .i64 k/\k<=n/\n - k<=kx/\Hid (Below w.heap.size w wr/\∀ (i:Nat) (r:Ru),i<k->rs[i]?=some r->¬ 6<r.r.length))
 case atStart=>exact ⟨0,rfl,Nat.zero_le _,by omega,(⟨Below.refl _ _,fun i y hi=>absurd hi (Nat.not_lt_zero _)⟩:Below w.heap.size w w/\∀ (i:Nat) (r:Ru),i<0->rs[i]?=some r->¬ 6<r.r.length)⟩
 case round =>
  obtain ⟨k,rfl,hk,hg,J⟩:=hrel
  by_cases hlt:k<n
  ·have hlt':(k:Int)<(n:Int):=by omega
   obtain ⟨r,hr⟩:∃ r,rs[k]?=some r:=⟨rs[k]'(by rw [HN.out];exact hlt),List.getElem?_eq_getElem _⟩
   obtain ⟨b,o,xa,xc,hao,c0,c1,c2,hrow⟩:=(HR.out.1.below J.out.1).at hr
   subst hao
   have hrl:=HR.out.2 r (List.mem_of_getElem? hr)
   have HX:Hid (rs[k]?=some r):=hr
   have HC:Hid (Calls Tryz.prog 95 #[.agg #[.string r.l,.slice xa r.r.length xc,.string r.p]] wr fun e w'=>e=.returned (.bool (decide ((6:Int)<(r.r.length:Int))))/\Below wr.heap.size wr w'):=qlh r.l r.p xa r.r.length xc wr
   clear hr hrow
   by_cases he:6<r.r.length
   ·have hd:decide ((6:Int)<(r.r.length:Int))=true:=by simp;omega
    rw [hd] at HC
    have HF:Hid (∃ r∈rs,6<r.r.length):=⟨r,List.mem_of_getElem? HX.out,he⟩
    generalize r.r.length=rl at c1 HC hrl
    clear he hd
    go_wp2_with (go_at_call 95;refine HC.out.mono ?_;rintro e w1 ⟨rfl,hB⟩)
    go_ret
    exact ⟨(k:Int),rfl,⟨fun _=>HF.out,fun _=>by omega⟩,qd J.out.1 hB⟩
   ·have hd:decide ((6:Int)<(r.r.length:Int))=false:=by simp;omega
    rw [hd] at HC
    have HF:Hid (∀ (i:Nat) (r:Ru),i<k+1->rs[i]?=some r->¬ 6<r.r.length):=fun i q hi hq=>by
     rcases Nat.lt_or_ge i k with h | h
     ·exact J.out.2 i q h hq
     ·have:i=k:=by omega
      subst this
      rw [HX.out] at hq
      cases hq
      exact he
    generalize r.r.length=rl at c1 HC hrl
    clear he hd
    go_wp2_with (go_at_call 95;refine HC.out.mono ?_;rintro e w1 ⟨rfl,hB⟩)
    go_roundg (n - (k+1))
    case measure=>omega
    case rel=>exact ⟨k+1,by simp,by omega,Nat.le_refl _,(⟨qd J.out.1 hB,HF.out⟩:Below w.heap.size w w1/\∀ (i:Nat) (r:Ru),i<k+1->rs[i]?=some r->¬ 6<r.r.length)⟩
  ·have hlt':¬ (k:Int)<(n:Int):=by omega
   have HF:Hid (¬ ∃ r∈rs,6<r.r.length):=by
    rintro ⟨r,hr,h6⟩
    obtain ⟨i,hi⟩:=List.getElem?_of_mem hr
    exact J.out.2 i r (by have:=(List.getElem?_eq_some_iff.1 hi).1;rw [HN.out] at this;omega) hi h6
   go_wp2_with fail
   go_ret
   exact ⟨-1,rfl,⟨fun h=>by omega,fun h=>absurd h HF.out⟩,J.out.1⟩
theorem qi1 (rs:List Ru) (ao:Option Addr) (cap:Nat) (w:World) (hr:ks w ao rs.length cap rs) (hl:rs.length<=10000) (hs:∀ r∈rs,r.r.length<=1000) (b:Bool) (hb:b=true↔∃ r∈rs,6<r.r.length) :
  Calls Tryz.prog 94 #[.slice ao rs.length cap,.func (.func 95) #[] #[]] w fun e w'=>e=.returned (.bool b)/\Below w.heap.size w w':=by
 have HC:Hid (Calls Tryz.prog 106 #[.slice ao rs.length cap,.func (.func 95) #[] #[]] w fun e w'=>∃ z:Int,e=.returned (.int .i64 z)/\(0<=z↔∃ r∈rs,6<r.r.length)/\Below w.heap.size w w'):=qgo rs ao cap w hr hl hs
 have HB:Hid (b=true↔∃ r∈rs,6<r.r.length):=hb
 clear hr hb hs
 go_enter Tryz.func94,Tryz.ntmps94
 go_wp2_with fail
 refine HC.out.mono ?_
 rintro e w1 ⟨z,rfl,hz,hB⟩
 have HE:Hid (b=true↔0<=z):=HB.out.trans hz.symm
 have HW:Hid (Below w.heap.size w w1):=hB
 clear hz hB HB HC
 cases b
 ·have hz:¬ 0<=z:=fun h=>by have:=HE.out.2 h;cases this
  go_wp2_with fail
  go_ret
  exact ⟨by simp [hz],HW.out⟩
 ·have hz:0<=z:=HE.out.1 rfl
  go_wp2_with fail
  go_ret
  exact ⟨by simp,HW.out⟩
theorem qi2 (G:Gm) (h:Hd) (w:World) (hG:IsG w h G) (b:Bool) (hb:b=true↔kz G) (m:Nat) (hm:(lfs G.rs).length=m):Calls Tryz.prog 82 #[gv h G,.int .i64 (m:Int)] w fun e w'=>e=.returned (.bool b)/\Below w.heap.size w w':=by
 obtain ⟨ts,st,ex,rs⟩:=G
 obtain ⟨ta,tc,ra,rc⟩:=h
 simp only at hm
 have hs1:ts.length<=100:=hG.small.nt
 have hs2:rs.length<=200:=hG.small.nr
 have hm2:m<=200:=by have:=j9 rs;omega
 have hm1:ts.length<=tc/\tc<=9223372036854775807:=by have h1:=hG.tok.le;have h2:=hG.tok.max;simp only at h1 h2;unfold maxLen at h2;omega
 have hm3:=kj hG.rul
 simp only at hm3
 obtain ⟨b4,hb4⟩:=zr (∃ r∈rs,6<r.r.length)
 have HC:Hid (∀ V:World,Below w.heap.size w V->Calls Tryz.prog 94 #[.slice ra rs.length rc,.func (.func 95) #[] #[]] V fun e w'=>e=.returned (.bool b4)/\Below V.heap.size V w'):=fun V hV=>qi1 rs ra rc V (hG.rul.below hV) (by omega) (fun r hr=>Nat.le_trans (hG.small.rl r hr).2.2.1 (by omega)) b4 hb4
 have HP:Hid (b=true↔(12<ts.length\/30<rs.length\/10<m\/b4=true)):=by
  rw [<-hm,hb4]
  exact hb
 unfold gv
 simp only
 clear hG hb hb4 hm
 generalize ts.length=tn at *
 generalize rs.length=rn at *
 have HW:Hid (∀ o,Below w.heap.size w (w.alloc o)):=fun o=>qb w o
 go_enter Tryz.func82,Tryz.ntmps82
 by_cases h1:12<tn
 ·have HF:Hid (b=true):=HP.out.2 (.inl h1)
  have h1':(12:Int)<(tn:Int):=by omega
  go_wp2_with fail
  go_ret
  exact ⟨by rw [HF.out];rfl,HW.out _⟩
 have h1':¬ (12:Int)<(tn:Int):=by omega
 by_cases h2:30<rn
 ·have HF:Hid (b=true):=HP.out.2 (.inr (.inl h2))
  have h2':(30:Int)<(rn:Int):=by omega
  go_wp2_with fail
  go_ret
  exact ⟨by rw [HF.out];rfl,HW.out _⟩
 have h2':¬ (30:Int)<(rn:Int):=by omega
 by_cases h3:10<m
 ·have HF:Hid (b=true):=HP.out.2 (.inr (.inr (.inl h3)))
  have h3':(10:Int)<(m:Int):=by omega
  go_wp2_with fail
  go_ret
  exact ⟨by rw [HF.out];rfl,HW.out _⟩
 have h3':¬ (10:Int)<(m:Int):=by omega
 have HF:Hid (b=b4):=by
  cases b <;> cases b4
  ·rfl
  ·have:=HP.out.2 (.inr (.inr (.inr rfl)));cases this
  ·rcases HP.out.1 rfl with h | h | h | h
   ·omega
   ·omega
   ·omega
   ·cases h
  ·rfl
 go_wp2_with fail
 refine (HC.out _ (HW.out _)).mono ?_
 rintro e w1 ⟨rfl,hB⟩
 go_wp2_with fail
 go_ret
 exact ⟨by rw [HF.out];rfl,qd (HW.out _) hB⟩
structure SB (w W:World) (sb:Nat) (h:SHd) (S:Sp) (qs:List (SR × Option Addr × Nat)):Prop where
 box:W.heap[sb]?=some (.cells (sC h S) 31 (0,0))
 nm:W.ownsRow w.heap.size 9 1 (.slice h.na S.nm.length h.nc) S.nm.length (strC S.nm)
 lv:W.ownsRow w.heap.size 3 1 (.slice h.la S.lv.length h.lc) S.lv.length (intC S.lv)
 az:W.ownsRow w.heap.size 3 1 (.slice h.aa S.az.length h.ac) S.az.length (intC S.az)
 rl:W.ownsRow w.heap.size 47 4 (.slice h.ra S.rs.length h.rc) S.rs.length (srC qs)
 map:qs.map (·.1)=S.rs
 row:∀ q∈qs,W.ownsRow w.heap.size 3 1 (.slice q.2.1 q.1.r.length q.2.2) q.1.r.length (natC q.1.r)
 dis:∀ k,blk h.la=some k->blk h.aa≠some k
 bel:Below w.heap.size w W
 new:w.heap.size<=sb
theorem SB.isSp {w W:World} {sb:Nat} {h:SHd} {S:Sp} {qs:List (SR × Option Addr × Nat)} (s:SB w W sb h S qs):IsSp W h S :=
 ⟨Row.of_own s.nm,Row.of_own s.lv,Row.of_own s.az,⟨qs,s.map,Row.of_own s.rl,fun q hq=>Row.of_own (s.row q hq)⟩⟩
theorem zw {W W':World} {base E k n:Nat} {v:Value} {cs:List Value} (h:W.ownsRow base E k v n cs) (hb:Below W.heap.size W W'):W'.ownsRow base E k v n cs :=
 qh h (fun i hi=>hb.block i (World.ownsRow.lt h i hi).2)
theorem SB.step {w W W':World} {sb:Nat} {h:SHd} {S:Sp} {qs:List (SR × Option Addr × Nat)} (s:SB w W sb h S qs) (hb:Below W.heap.size W W'):SB w W' sb h S qs :=
 ⟨qf hb s.box,zw s.nm hb,zw s.lv hb,zw s.az hb,zw s.rl hb,s.map,fun q hq=>zw (s.row q hq) hb,s.dis,qd s.bel hb,s.new⟩
theorem SB.first {w W:World} {sb:Nat} {S:Sp} (hb:W.heap[sb]?=some (.cells (sC ⟨none,0,none,0,none,0,none,0⟩ S) 31 (0,0))) (h1:S.nm=[]) (h2:S.lv=[]) (h3:S.az=[]) (h4:S.rs=[]) (hB:Below w.heap.size w W) (hs:w.heap.size<=sb):SB w W sb ⟨none,0,none,0,none,0,none,0⟩ S []:=by
 refine ⟨hb,?_,?_,?_,?_,by rw [h4];rfl,(fun q hq=>by cases hq),(fun k hk=>by cases hk),hB,hs⟩
 ·rw [h1];exact World.ownsRow_nil _ _ _ _
 ·rw [h2];exact World.ownsRow_nil _ _ _ _
 ·rw [h3];exact World.ownsRow_nil _ _ _ _
 ·rw [h4];exact World.ownsRow_nil _ _ _ _
theorem j8 {W W':World} {F:Nat->Prop} {base E k n:Nat} {v:Value} {cs:List Value} (h:W.ownsRow base E k v n cs) (hk:Kept F W W') (hf:∀ i,v.ownBlock=some i->¬ F i):W'.ownsRow base E k v n cs :=
 qh h (fun i hi=>hk.block i (World.ownsRow.lt h i hi).2 (hf i hi))
theorem zl {W:World} {sb j base E k n:Nat} {v u:Value} {cs:List Value} {c:Array Value} (h:W.ownsRow base E k v n cs) (hb:W.heap[sb]?=some (.cells c 31 (0,0))) (hE:E≠31):(W.setCell ⟨sb,j,none⟩ u).ownsRow base E k v n cs :=
 qh h (fun _ hi=>Below.heap_setCell _ _ _ _ (qr (qx h hi) ⟨_,hb⟩ hE))
theorem ye {W:World} {sb j:Nat} {u:Value} {c:Array Value} (hb:W.heap[sb]?=some (.cells c 31 (0,0))):(W.setCell ⟨sb,j,none⟩ u).heap[sb]?=some (.cells (c.setIfInBounds j u) 31 (0,0)):=by
 rw [setCell_eq_setRow W sb j _ 31 (0,0) _ hb]
 exact setRow_heap _ _ _ _ 31 _ hb
theorem SB.addNm {w W:World} {sb:Nat} {h:SHd} {S:Sp} {qs:List (SR × Option Addr × Nat)} (s:SB w W sb h S qs) (x:ByteArray) (hn:S.nm.length<10000) :
  ∃ g c W',(Builtin.append_ #[28,28] 28 #[.slice h.na S.nm.length h.nc,.slice (some ⟨W.heap.size,0,none⟩) 1 1]).run Tryz.prog (W.alloc (.cells #[.string x] 9))=.ok (.slice (some ⟨g,0,none⟩) (S.nm.length+1) c) W' /\
   W'.heap[sb]?=some (.cells (sC h S) 31 (0,0))/\SB w (W'.setCell ⟨sb,4,none⟩ (.slice (some ⟨g,0,none⟩) (S.nm.length+1) c)) sb ⟨some ⟨g,0,none⟩,c,h.la,h.lc,h.aa,h.ac,h.ra,h.rc⟩ ⟨S.tk,S.nt,S.st,S.ex,S.nm++[x],S.lv,S.az,S.rs⟩ qs/\Kept (fun k=>k=sb\/blk h.na=some k) W (W'.setCell ⟨sb,4,none⟩ (.slice (some ⟨g,0,none⟩) (S.nm.length+1) c)):=by
 obtain ⟨g,c,W',hr,ho,hk,hg⟩:=jc (us:=[.string x]) u28 i9 rfl (by decide) (by decide) rfl (fun u hu=>by rw [List.mem_singleton] at hu;subst hu;rfl) s.nm s.bel.size (by omega)
 have hk0:Kept (fun k=>blk h.na=some k) W W':=((Kept.refl _ W).alloc _).trans hk (fun k _ e=>zi e)
 have stay:∀ {E k n:Nat} {v:Value} {cs:List Value},W.ownsRow w.heap.size E k v n cs->E≠9->W'.ownsRow w.heap.size E k v n cs:=fun ho hE=>j8 ho hk0 (fun i hi e=>qr (qx ho hi) (qw s.nm e).2.2 hE rfl)
 have hbox:W'.heap[sb]?=some (.cells (sC h S) 31 (0,0)):=by
  rw [hk0.block sb (Array.getElem?_eq_some_iff.1 s.box).1 (fun e=>qr ⟨_,s.box⟩ (qw s.nm e).2.2 (by decide) rfl)]
  exact s.box
 refine ⟨g,c,W',hr,hbox,⟨?_,?_,zl (stay s.lv (by decide)) hbox (by decide),zl (stay s.az (by decide)) hbox (by decide),zl (stay s.rl (by decide)) hbox (by decide),s.map,fun q hq=>zl (stay (s.row q hq) (by decide)) hbox (by decide),s.dis,?_,s.new⟩,?_⟩
 ·rw [ye hbox]
  unfold sC
  simp
 ·simp only [List.length_append,List.length_cons,List.length_nil]
  have e:strC (S.nm++[x])=strC S.nm++[.string x]:=by unfold strC;rw [List.map_append];rfl
  rw [e]
  exact zl ho hbox (by decide)
 ·refine (s.bel.trans (hk0.below s.bel.size (fun k hk e=>?_))).setCell (p:=⟨sb,4,none⟩) s.new _
  have:=(qw s.nm e).1
  omega
 ·exact Kept.setCell (hk0.weaken (fun k e=>.inr e)) _ _ (fun _=>.inl rfl)
theorem qh7 (l:List Int) (x:Int):intC (l++[x])=intC l++[.int .i64 x]:=by unfold intC;rw [List.map_append];rfl
theorem SB.addLv {w W:World} {sb:Nat} {h:SHd} {S:Sp} (s:SB w W sb h S []) (x:Int) (hn:S.lv.length<10000) :
  ∃ g c W',(Builtin.append_ #[26,26] 26 #[.slice h.la S.lv.length h.lc,.slice (some ⟨W.heap.size,0,none⟩) 1 1]).run Tryz.prog (W.alloc (.cells #[.int .i64 x] 3))=.ok (.slice (some ⟨g,0,none⟩) (S.lv.length+1) c) W' /\
   W'.heap[sb]?=some (.cells (sC h S) 31 (0,0))/\SB w (W'.setCell ⟨sb,5,none⟩ (.slice (some ⟨g,0,none⟩) (S.lv.length+1) c)) sb ⟨h.na,h.nc,some ⟨g,0,none⟩,c,h.aa,h.ac,h.ra,h.rc⟩ ⟨S.tk,S.nt,S.st,S.ex,S.nm,S.lv++[x],S.az,S.rs⟩ []/\Kept (fun k=>k=sb\/blk h.la=some k) W (W'.setCell ⟨sb,5,none⟩ (.slice (some ⟨g,0,none⟩) (S.lv.length+1) c)):=by
 obtain ⟨g,c,W',hr,ho,hk,hg⟩:=jc (us:=[.int .i64 x]) u29 i3 rfl (by decide) (by decide) rfl (fun u hu=>by rw [List.mem_singleton] at hu;subst hu;rfl) s.lv s.bel.size (by omega)
 have hk0:Kept (fun k=>blk h.la=some k) W W':=((Kept.refl _ W).alloc _).trans hk (fun k _ e=>zi e)
 have stay:∀ {E k n:Nat} {v:Value} {cs:List Value},W.ownsRow w.heap.size E k v n cs->E≠3->W'.ownsRow w.heap.size E k v n cs:=fun ho hE=>j8 ho hk0 (fun i hi e=>qr (qx ho hi) (qw s.lv e).2.2 hE rfl)
 have saz:W'.ownsRow w.heap.size 3 1 (.slice h.aa S.az.length h.ac) S.az.length (intC S.az):=j8 s.az hk0 (fun i hi e=>s.dis i e (zi hi))
 have hbox:W'.heap[sb]?=some (.cells (sC h S) 31 (0,0)):=by
  rw [hk0.block sb (Array.getElem?_eq_some_iff.1 s.box).1 (fun e=>qr ⟨_,s.box⟩ (qw s.lv e).2.2 (by decide) rfl)]
  exact s.box
 refine ⟨g,c,W',hr,hbox,⟨?_,zl (stay s.nm (by decide)) hbox (by decide),?_,zl saz hbox (by decide),zl (stay s.rl (by decide)) hbox (by decide),s.map,(fun q hq=>by cases hq),?_,?_,s.new⟩,?_⟩
 ·rw [ye hbox]
  unfold sC
  simp
 ·simp only [List.length_append,List.length_cons,List.length_nil]
  rw [qh7]
  exact zl ho hbox (by decide)
 ·intro k hk2 e
  cases hk2
  rcases hg with h1 | h1
  ·exact s.dis g (zi h1) e
  ·have:=(qw s.az e).2.1
   simp only at this
   omega
 ·refine (s.bel.trans (hk0.below s.bel.size (fun k hk e=>?_))).setCell (p:=⟨sb,5,none⟩) s.new _
  have:=(qw s.lv e).1
  omega
 ·exact Kept.setCell (hk0.weaken (fun k e=>.inr e)) _ _ (fun _=>.inl rfl)
theorem SB.addAz {w W:World} {sb:Nat} {h:SHd} {S:Sp} (s:SB w W sb h S []) (x:Int) (hn:S.az.length<10000) :
  ∃ g c W',(Builtin.append_ #[26,26] 26 #[.slice h.aa S.az.length h.ac,.slice (some ⟨W.heap.size,0,none⟩) 1 1]).run Tryz.prog (W.alloc (.cells #[.int .i64 x] 3))=.ok (.slice (some ⟨g,0,none⟩) (S.az.length+1) c) W' /\
   W'.heap[sb]?=some (.cells (sC h S) 31 (0,0))/\SB w (W'.setCell ⟨sb,6,none⟩ (.slice (some ⟨g,0,none⟩) (S.az.length+1) c)) sb ⟨h.na,h.nc,h.la,h.lc,some ⟨g,0,none⟩,c,h.ra,h.rc⟩ ⟨S.tk,S.nt,S.st,S.ex,S.nm,S.lv,S.az++[x],S.rs⟩ []/\Kept (fun k=>k=sb\/blk h.aa=some k) W (W'.setCell ⟨sb,6,none⟩ (.slice (some ⟨g,0,none⟩) (S.az.length+1) c)):=by
 obtain ⟨g,c,W',hr,ho,hk,hg⟩:=jc (us:=[.int .i64 x]) u29 i3 rfl (by decide) (by decide) rfl (fun u hu=>by rw [List.mem_singleton] at hu;subst hu;rfl) s.az s.bel.size (by omega)
 have hk0:Kept (fun k=>blk h.aa=some k) W W':=((Kept.refl _ W).alloc _).trans hk (fun k _ e=>zi e)
 have stay:∀ {E k n:Nat} {v:Value} {cs:List Value},W.ownsRow w.heap.size E k v n cs->E≠3->W'.ownsRow w.heap.size E k v n cs:=fun ho hE=>j8 ho hk0 (fun i hi e=>qr (qx ho hi) (qw s.az e).2.2 hE rfl)
 have slv:W'.ownsRow w.heap.size 3 1 (.slice h.la S.lv.length h.lc) S.lv.length (intC S.lv):=j8 s.lv hk0 (fun i hi e=>s.dis i (zi hi) e)
 have hbox:W'.heap[sb]?=some (.cells (sC h S) 31 (0,0)):=by
  rw [hk0.block sb (Array.getElem?_eq_some_iff.1 s.box).1 (fun e=>qr ⟨_,s.box⟩ (qw s.az e).2.2 (by decide) rfl)]
  exact s.box
 refine ⟨g,c,W',hr,hbox,⟨?_,zl (stay s.nm (by decide)) hbox (by decide),zl slv hbox (by decide),?_,zl (stay s.rl (by decide)) hbox (by decide),s.map,(fun q hq=>by cases hq),?_,?_,s.new⟩,?_⟩
 ·rw [ye hbox]
  unfold sC
  simp
 ·simp only [List.length_append,List.length_cons,List.length_nil]
  rw [qh7]
  exact zl ho hbox (by decide)
 ·intro k hk2 e
  cases e
  rcases hg with h1 | h1
  ·exact s.dis g hk2 (zi h1)
  ·have:=(qw s.lv hk2).2.1
   simp only at this
   omega
 ·refine (s.bel.trans (hk0.below s.bel.size (fun k hk e=>?_))).setCell (p:=⟨sb,6,none⟩) s.new _
  have:=(qw s.az e).1
  omega
 ·exact Kept.setCell (hk0.weaken (fun k e=>.inr e)) _ _ (fun _=>.inl rfl)
theorem SB.putNt {w W:World} {sb:Nat} {h:SHd} {S:Sp} {qs:List (SR × Option Addr × Nat)} (s:SB w W sb h S qs) (x:Nat):SB w (W.setCell ⟨sb,1,none⟩ (.int .i64 (x:Int))) sb h ⟨S.tk,x,S.st,S.ex,S.nm,S.lv,S.az,S.rs⟩ qs:=by
 refine ⟨?_,zl s.nm s.box (by decide),zl s.lv s.box (by decide),zl s.az s.box (by decide),zl s.rl s.box (by decide),s.map,fun q hq=>zl (s.row q hq) s.box (by decide),s.dis,s.bel.setCell (p:=⟨sb,1,none⟩) s.new _,s.new⟩
 rw [ye s.box]
 unfold sC
 simp
theorem SB.putSt {w W:World} {sb:Nat} {h:SHd} {S:Sp} {qs:List (SR × Option Addr × Nat)} (s:SB w W sb h S qs) (x:Nat):SB w (W.setCell ⟨sb,2,none⟩ (.int .i64 (x:Int))) sb h ⟨S.tk,S.nt,x,S.ex,S.nm,S.lv,S.az,S.rs⟩ qs:=by
 refine ⟨?_,zl s.nm s.box (by decide),zl s.lv s.box (by decide),zl s.az s.box (by decide),zl s.rl s.box (by decide),s.map,fun q hq=>zl (s.row q hq) s.box (by decide),s.dis,s.bel.setCell (p:=⟨sb,2,none⟩) s.new _,s.new⟩
 rw [ye s.box]
 unfold sC
 simp
theorem qj6 (qs:List (SR × Option Addr × Nat)) (q:SR × Option Addr × Nat):srC (qs++[q])=srC qs++[.int .i64 q.1.l,.slice q.2.1 q.1.r.length q.2.2,.int .i64 q.1.lv,.int .i64 q.1.a]:=by unfold srC;rw [List.flatMap_append];rfl
theorem SB.addRu {w W:World} {sb:Nat} {h:SHd} {S:Sp} {qs:List (SR × Option Addr × Nat)} (s:SB w W sb h S qs) (q:SR × Option Addr × Nat) (hq:W.ownsRow w.heap.size 3 1 (.slice q.2.1 q.1.r.length q.2.2) q.1.r.length (natC q.1.r)) (hn:S.rs.length<10000) :
  ∃ g c W',(Builtin.append_ #[29,29] 29 #[.slice h.ra S.rs.length h.rc,.slice (some ⟨W.heap.size,0,none⟩) 1 1]).run Tryz.prog (W.alloc (.cells #[.int .i64 q.1.l,.slice q.2.1 q.1.r.length q.2.2,.int .i64 q.1.lv,.int .i64 q.1.a] 47))=.ok (.slice (some ⟨g,0,none⟩) (S.rs.length+1) c) W' /\
   W'.heap[sb]?=some (.cells (sC h S) 31 (0,0))/\SB w (W'.setCell ⟨sb,7,none⟩ (.slice (some ⟨g,0,none⟩) (S.rs.length+1) c)) sb ⟨h.na,h.nc,h.la,h.lc,h.aa,h.ac,some ⟨g,0,none⟩,c⟩ ⟨S.tk,S.nt,S.st,S.ex,S.nm,S.lv,S.az,S.rs++[q.1]⟩ (qs++[q])/\Kept (fun k=>k=sb\/blk h.ra=some k) W (W'.setCell ⟨sb,7,none⟩ (.slice (some ⟨g,0,none⟩) (S.rs.length+1) c)):=by
 obtain ⟨g,c,W',hr,ho,hk,hg⟩:=jc (us:=[.int .i64 q.1.l,.slice q.2.1 q.1.r.length q.2.2,.int .i64 q.1.lv,.int .i64 q.1.a]) u30 i62 rfl (by decide) (by decide) rfl (fun u hu=>by simp at hu;rcases hu with rfl | rfl | rfl | rfl <;> rfl) s.rl s.bel.size (by omega)
 have hk0:Kept (fun k=>blk h.ra=some k) W W':=((Kept.refl _ W).alloc _).trans hk (fun k _ e=>zi e)
 have stay:∀ {E k n:Nat} {v:Value} {cs:List Value},W.ownsRow w.heap.size E k v n cs->E≠47->W'.ownsRow w.heap.size E k v n cs:=fun ho hE=>j8 ho hk0 (fun i hi e=>qr (qx ho hi) (qw s.rl e).2.2 hE rfl)
 have hbox:W'.heap[sb]?=some (.cells (sC h S) 31 (0,0)):=by
  rw [hk0.block sb (Array.getElem?_eq_some_iff.1 s.box).1 (fun e=>qr ⟨_,s.box⟩ (qw s.rl e).2.2 (by decide) rfl)]
  exact s.box
 refine ⟨g,c,W',hr,hbox,⟨?_,zl (stay s.nm (by decide)) hbox (by decide),zl (stay s.lv (by decide)) hbox (by decide),zl (stay s.az (by decide)) hbox (by decide),?_,?_,?_,s.dis,?_,s.new⟩,?_⟩
 ·rw [ye hbox]
  unfold sC
  simp
 ·simp only [List.length_append,List.length_cons,List.length_nil]
  rw [qj6]
  exact zl ho hbox (by decide)
 ·rw [List.map_append,s.map]
  rfl
 ·intro q' hq'
  rcases List.mem_append.1 hq' with h1 | h1
  ·exact zl (stay (s.row q' h1) (by decide)) hbox (by decide)
  ·rw [List.mem_singleton] at h1
   subst h1
   exact zl (stay hq (by decide)) hbox (by decide)
 ·refine (s.bel.trans (hk0.below s.bel.size (fun k hk e=>?_))).setCell (p:=⟨sb,7,none⟩) s.new _
  have:=(qw s.rl e).1
  omega
 ·exact Kept.setCell (hk0.weaken (fun k e=>.inr e)) _ _ (fun _=>.inl rfl)
theorem qrm {W:World} {B g n:Nat} {E:List Bool} (h:W.ownsRow B 4 1 (.slice (some ⟨g,0,none⟩) n n) n (booC E)) {x:Nat} (hx:x<n):W.cell? ⟨g,x,none⟩=some (.bool (isF E x)):=by
 have hl:=h.1
 unfold booC at hl
 rw [List.length_map] at hl
 rw [h.cellAt x (by omega)]
 unfold booC
 rw [List.getElem?_map,vm (by omega)]
 rfl
end Go.Proofs.YtngclmglmhiljaaGreatDoor
