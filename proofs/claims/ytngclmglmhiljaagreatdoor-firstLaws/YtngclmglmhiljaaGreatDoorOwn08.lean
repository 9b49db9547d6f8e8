/- Texts that the proofs of the First statements stand on, part Own08. -/
import Derived.Lib.SliceRun
import Derived.Deep.RegionHeld
import Derived.Test.YtngclmglmhiljaaGreatDoorOwn07
set_option maxHeartbeats 16000000
set_option maxRecDepth 100000
namespace Go.Proofs.YtngclmglmhiljaaGreatDoor
open Go.RowKit
theorem qoh {w:World} {ao:Option Addr} {n cap:Nat} {rs:List SR} (h:qci w ao n cap rs):∃ qs:List QR,qs.map (·.1)=rs/\Row w 4 ao n cap (srC qs)/\∀ q∈qs,Row w 1 q.2.1 q.1.r.length q.2.2 (natC q.1.r):=h
theorem qe4 (W:World) (qs:List QR) (ra:Option Addr) (n rc:Nat) (h:Row W 4 ra n rc (srC qs)) (hn:0<n) (hn2:n<=1000) :
  Calls Tryz.prog 40 #[.slice ra n rc] W fun e W'=>∃ g c,e=.returned (.slice (some ⟨g,0,none⟩) n c)/\W'.ownsRow W.heap.size 47 4 (.slice (some ⟨g,0,none⟩) n c) n (srC qs)/\Below W.heap.size W W':=by
 have hb:Below W.heap.size W (W.alloc (.cells #[] 47)):=qb _ _
 have hnw:(W.alloc (.cells #[] 47)).heap[W.heap.size]?=some (.cells #[] 47 (0,0)):=heap_alloc_new _ _
 have ho:(W.alloc (.cells #[] 47)).ownsRow W.heap.size 47 4 (.slice (some ⟨W.heap.size,0,none⟩) 0 0) 0 []:=⟨rfl,.inr ⟨W.heap.size,0,#[],rfl,Nat.le_refl _,hnw,Nat.le_refl _,by unfold maxLen;omega,rfl,rfl⟩⟩
 obtain ⟨g,c,W',hrun,ho2,hk,-⟩:=qoe u30 i62 rfl (by decide) (by decide) (qrh qs) ho hb.size (h.below hb) (by omega) hn
 rw [Nat.zero_add,List.nil_append] at ho2
 rw [Nat.zero_add] at hrun
 have HF:Hid (W'.ownsRow W.heap.size 47 4 (.slice (some ⟨g,0,none⟩) n c) n (srC qs)/\Below W.heap.size W W'):=⟨ho2,hb.trans (hk.below hb.size (fun k hk e=>by cases e;exact absurd hk (Nat.lt_irrefl _)))⟩
 obtain ⟨b,o,rfl,-⟩:=h.at hn
 have hnil:(binOp .eql 29 (.slice (some ⟨b,o,none⟩) n rc) (.slice none 0 0)).run Tryz.prog W=.ok (.bool false) W:=Lib.run_eql_slice_nil W 29 47 (some ⟨b,o,none⟩) n rc 0 0 u30
 clear ho ho2 hk hnw hb h
 go_enter Tryz.func40,Tryz.ntmps40
 go_wp2_with (at_builtin;refine Lib.wpList_append_run _ rfl _ _ _ _ rfl _ _ rfl rfl _ _ hrun ?_)
 go_ret
 exact ⟨g,c,rfl,HF.out⟩
theorem qfq {V:World} {B g n c i:Nat} {cs:List QR} {q:QR} (h:V.ownsRow B 47 4 (.slice (some ⟨g,0,none⟩) n c) n (srC cs)) (hq:cs[i]?=some q):V.cell? ⟨g,i * 4,none⟩=some (.int .i64 q.1.l)/\V.cell? ⟨g,i * 4+1,none⟩=some (.slice q.2.1 q.1.r.length q.2.2)/\V.cell? ⟨g,i * 4+2,none⟩=some (.int .i64 q.1.lv)/\V.cell? ⟨g,i * 4+3,none⟩=some (.int .i64 q.1.a):=by
 have hl:=h.1
 rw [jq] at hl
 have hi:i<cs.length:=(List.getElem?_eq_some_iff.1 hq).1
 have k:∀ j,j<4->V.cell? ⟨g,i * 4+j,none⟩=[Value.int .i64 q.1.l,.slice q.2.1 q.1.r.length q.2.2,.int .i64 q.1.lv,.int .i64 q.1.a][j]?:=fun j hj=>by
  rw [h.cellAt (i * 4+j) (by omega)]
  exact qsa hq j hj
 exact ⟨k 0 (by omega),k 1 (by omega),k 2 (by omega),k 3 (by omega)⟩
theorem qld (F:FuncId) (cap:Array Value) (hE:∀ (args:Array Value) (W:World),(callFunc F args).run Tryz.prog W=.ok (.enter F args) W) (pr:QR->Bool) (W:World) (qs:List QR) (B g n c:Nat) (h:W.ownsRow B 47 4 (.slice (some ⟨g,0,none⟩) n c) n (srC qs)) (hn:n<=1000) (hP:∀ V,Below W.heap.size W V->∀ q∈qs,Calls Tryz.prog F (#[.agg #[.int .i64 q.1.l,.slice q.2.1 q.1.r.length q.2.2,.int .i64 q.1.lv,.int .i64 q.1.a]]++cap) V fun e V'=>e=.returned (.bool (pr q))/\Below V.heap.size V V') :
  Calls Tryz.prog 62 #[.slice (some ⟨g,0,none⟩) n c,.func (.func F) #[] cap] W fun e W'=>Below W.heap.size W W'/\((e=.returned (.int .i64 (-1))/\∀ q∈qs,pr q=false)\/∃ i:Nat,e=.returned (.int .i64 (i:Int))/\i<n/\(∀ q∈qs.take i,pr q=false)/\∃ q,qs[i]?=some q/\pr q=true):=by
 have HP:Hid (∀ V,Below W.heap.size W V->∀ q∈qs,Calls Tryz.prog F (#[.agg #[.int .i64 q.1.l,.slice q.2.1 q.1.r.length q.2.2,.int .i64 q.1.lv,.int .i64 q.1.a]]++cap) V fun e V'=>e=.returned (.bool (pr q))/\Below V.heap.size V V'):=hP
 have HO:Hid (W.ownsRow B 47 4 (.slice (some ⟨g,0,none⟩) n c) n (srC qs)):=h
 have hl:=h.1
 rw [jq] at hl
 have HL:Hid (qs.length=n):=by show qs.length=n;omega
 have hc:=z8 h
 clear h hP hl
 go_enter Tryz.func62,Tryz.ntmps62
 go_wp2_with fail
 go_loopg [8] n (fun kx s8 wr=>∃ i:Nat,s8=.int .i64 i/\i<=n/\n - i<=kx/\Hid (Below W.heap.size W wr/\∀ q∈qs.take i,pr q=false))
 case atStart=>exact ⟨0,rfl,Nat.zero_le _,by omega,(⟨Below.refl _ _,fun q hq=>by cases hq⟩:Below W.heap.size W W/\∀ q∈qs.take 0,pr q=false)⟩
 case round =>
  obtain ⟨i,rfl,hi,hg,J⟩:=hrel
  by_cases hlt:i<n
  ·have hlt':(i:Int)<(n:Int):=by omega
   obtain ⟨q,hq⟩:∃ q,qs[i]?=some q:=⟨qs[i]'(by rw [HL.out];exact hlt),List.getElem?_eq_getElem _⟩
   obtain ⟨d0,d1,d2,d3⟩:=qfq (qh HO.out (fun j hj=>J.out.1.block j (qw HO.out (zi hj)).2.1)) hq
   have HC:Hid (Calls Tryz.prog F (#[.agg #[.int .i64 q.1.l,.slice q.2.1 q.1.r.length q.2.2,.int .i64 q.1.lv,.int .i64 q.1.a]]++cap) wr fun e V'=>e=.returned (.bool (pr q))/\Below wr.heap.size wr V'):=HP.out wr J.out.1 q (List.mem_of_getElem? hq)
   have HQ:Hid (qs[i]?=some q):=hq
   clear hq
   go_wp2_with fail
   refine HC.out.mono ?_
   rintro e V ⟨rfl,hb⟩
   clear d0 d1 d2 d3 HC
   cases hp:pr q
   ·have HF:Hid (Below W.heap.size W V/\∀ q∈qs.take (i+1),pr q=false):=by
     refine ⟨qd J.out.1 hb,fun z hz=>?_⟩
     rw [List.take_add_one,List.mem_append] at hz
     rcases hz with hz | hz
     ·exact J.out.2 z hz
     ·rw [HQ.out] at hz
      rw [Option.toList_some,List.mem_singleton] at hz
      subst hz
      exact hp
    clear J hp hb
    go_wp2_with fail
    go_roundg (n - (i+1))
    case measure=>omega
    case rel=>exact ⟨i+1,by simp,by omega,Nat.le_refl _,HF⟩
   ·have HF:Hid (Below W.heap.size W V/\(∀ q∈qs.take i,pr q=false)/\∃ q,qs[i]?=some q/\pr q=true):=⟨qd J.out.1 hb,J.out.2,q,HQ.out,hp⟩
    clear J hp hb
    go_wp2_with fail
    go_ret
    exact ⟨HF.out.1,.inr ⟨i,rfl,hlt,HF.out.2⟩⟩
  ·have hlt':¬ (i:Int)<(n:Int):=by omega
   have HF:Hid (Below W.heap.size W wr/\∀ q∈qs,pr q=false):=by
    have:i=n:=by omega
    subst this
    have h2:=J.out.2
    rw [List.take_of_length_le (by rw [HL.out];exact Nat.le_refl _)] at h2
    exact ⟨J.out.1,h2⟩
   clear J
   go_wp2_with fail
   go_ret
   exact ⟨HF.out.1,.inl ⟨rfl,fun a b d h=>HF.out.2 (a,b,d) h⟩⟩
structure DL (W V:World) (B g n c:Nat) (pr:QR->Bool) (qs:List QR) (i j:Nat):Prop where
 kep:Kept (fun k=>k=g) W V
 own:∃ cs:List QR,cs.length=n/\V.ownsRow B 47 4 (.slice (some ⟨g,0,none⟩) n c) n (srC cs)/\cs.take i=(qs.take j).filter (fun q=>!pr q)/\cs.drop j=qs.drop j
 lt:i<j
theorem qle {α:Type} {l:List α} {i:Nat} {x:α} (h:i<l.length):(l.set i x).take (i+1)=l.take i++[x]:=by
 rw [List.take_add_one,List.getElem?_set,if_pos rfl,if_pos h,List.take_set_of_le (Nat.le_refl i)]
 rfl
theorem qbh {qs:List QR} {j:Nat} {q:QR} (h:qs[j]?=some q):qs.take (j+1)=qs.take j++[q]:=by rw [List.take_add_one,h];rfl
theorem qh4 (F:FuncId) (cap:Array Value) (hE:∀ (args:Array Value) (W:World),(callFunc F args).run Tryz.prog W=.ok (.enter F args) W) (pr:QR->Bool) (W:World) (qs:List QR) (B g n c:Nat) (h:W.ownsRow B 47 4 (.slice (some ⟨g,0,none⟩) n c) n (srC qs)) (hn:n<=1000) (hP:∀ V,Kept (fun k=>k=g) W V->∀ q∈qs,Calls Tryz.prog F (#[.agg #[.int .i64 q.1.l,.slice q.2.1 q.1.r.length q.2.2,.int .i64 q.1.lv,.int .i64 q.1.a]]++cap) V fun e V'=>e=.returned (.bool (pr q))/\Below V.heap.size V V') :
  Calls Tryz.prog 39 #[.slice (some ⟨g,0,none⟩) n c,.func (.func F) #[] cap] W fun e W'=>∃ m,e=.returned (.slice (some ⟨g,0,none⟩) m c)/\m<=n/\W'.ownsRow B 47 4 (.slice (some ⟨g,0,none⟩) m c) m (srC (qs.filter (fun q=>!pr q)))/\Kept (fun k=>k=g) W W':=by
 have HP:Hid (∀ V,Kept (fun k=>k=g) W V->∀ q∈qs,Calls Tryz.prog F (#[.agg #[.int .i64 q.1.l,.slice q.2.1 q.1.r.length q.2.2,.int .i64 q.1.lv,.int .i64 q.1.a]]++cap) V fun e V'=>e=.returned (.bool (pr q))/\Below V.heap.size V V'):=hP
 have HO:Hid (W.ownsRow B 47 4 (.slice (some ⟨g,0,none⟩) n c) n (srC qs)):=h
 have hl:=h.1
 rw [jq] at hl
 have HL:Hid (qs.length=n):=by show qs.length=n;omega
 have hc:=z8 h
 have HX:Hid (Calls Tryz.prog 62 #[.slice (some ⟨g,0,none⟩) n c,.func (.func F) #[] cap] W fun e W'=>Below W.heap.size W W'/\((e=.returned (.int .i64 (-1))/\∀ q∈qs,pr q=false)\/∃ i:Nat,e=.returned (.int .i64 (i:Int))/\i<n/\(∀ q∈qs.take i,pr q=false)/\∃ q,qs[i]?=some q/\pr q=true)):=qld F cap hE pr W qs B g n c h hn (fun V hV=>hP V (zk hV))
 clear h hP hl
 go_enter Tryz.func39,Tryz.ntmps39
 go_wp2_with fail
 refine HX.out.mono ?_
 rintro e V ⟨hb,⟨rfl,hno⟩ | ⟨i,rfl,hi,hbef,q,hq,hqp⟩⟩
 ·have HF:Hid (V.ownsRow B 47 4 (.slice (some ⟨g,0,none⟩) n c) n (srC (qs.filter (fun q=>!pr q)))/\Kept (fun k=>k=g) W V):=by
   have e:qs.filter (fun q=>!pr q)=qs:=List.filter_eq_self.2 (fun q hq=>by rw [hno q hq];rfl)
   rw [e]
   exact ⟨qh HO.out (fun j hj=>hb.block j (qw HO.out (zi hj)).2.1),zk hb⟩
  clear hno hb
  go_wp2_with fail
  go_ret
  exact ⟨n,rfl,Nat.le_refl _,HF.out⟩
 ·have HD:Hid (DL W V B g n c pr qs i (i+1)):=by
   have hf:(qs.take i).filter (fun q=>!pr q)=qs.take i:=List.filter_eq_self.2 (fun q hq=>by rw [hbef q hq];rfl)
   refine ⟨zk hb,⟨qs,HL.out,qh HO.out (fun j hj=>hb.block j (qw HO.out (zi hj)).2.1),?_,rfl⟩,Nat.lt_succ_self i⟩
   rw [qbh hq,List.filter_append,hf]
   simp [hqp]
  have hi1:¬ (i:Int)=-1:=by omega
  clear hbef hq hqp hb HX
  go_upto_block 0 with fail
  go_cut [5] (fun s5 wd=>∃ i:Nat,s5=.int .i64 i/\i<n/\Hid (DL W wd B g n c pr qs i n))
  case first =>
   go_wp2_with fail
   go_loopg [5,6] n (fun kx s5 s6 wr=>∃ i j:Nat,s5=.int .i64 i/\s6=.int .i64 j/\i<j/\j<=n/\n - j<=kx/\Hid (DL W wr B g n c pr qs i j))
   case atStart=>exact ⟨i,i+1,rfl,by simp,by omega,by omega,by omega,HD⟩
   case round =>
    clear HD hi1
    obtain ⟨i,j,rfl,rfl,hij,hj,hg,J⟩:=hrel
    by_cases hlt:j<n
    ·have hlt':(j:Int)<(n:Int):=by omega
     have hin:(i:Int)<(n:Int):=by omega
     obtain ⟨cs,hcl,ho,ht,hd⟩:=J.out.own
     obtain ⟨q,hq⟩:∃ q,qs[j]?=some q:=⟨qs[j]'(by rw [HL.out];exact hlt),List.getElem?_eq_getElem _⟩
     have hqc:cs[j]?=some q:=by
      have h1:(cs.drop j)[0]?=(qs.drop j)[0]?:=by rw [hd]
      rw [List.getElem?_drop,List.getElem?_drop] at h1
      simpa [hq] using h1
     obtain ⟨d0,d1,d2,d3⟩:=qfq ho hqc
     have hv:Below wr.heap.size wr (wr.alloc (.cells #[.int .i64 q.1.l,.slice q.2.1 q.1.r.length q.2.2,.int .i64 q.1.lv,.int .i64 q.1.a] 47)):=qb _ _
     have hk1:Kept (fun k=>k=g) W (wr.alloc (.cells #[.int .i64 q.1.l,.slice q.2.1 q.1.r.length q.2.2,.int .i64 q.1.lv,.int .i64 q.1.a] 47)):=J.out.kep.alloc _
     have HC:Hid (Calls Tryz.prog F (#[.agg #[.int .i64 q.1.l,.slice q.2.1 q.1.r.length q.2.2,.int .i64 q.1.lv,.int .i64 q.1.a]]++cap) (wr.alloc (.cells #[.int .i64 q.1.l,.slice q.2.1 q.1.r.length q.2.2,.int .i64 q.1.lv,.int .i64 q.1.a] 47)) fun e V'=>e=.returned (.bool (pr q))/\Below (wr.alloc (.cells #[.int .i64 q.1.l,.slice q.2.1 q.1.r.length q.2.2,.int .i64 q.1.lv,.int .i64 q.1.a] 47)).heap.size (wr.alloc (.cells #[.int .i64 q.1.l,.slice q.2.1 q.1.r.length q.2.2,.int .i64 q.1.lv,.int .i64 q.1.a] 47)) V'):=HP.out _ hk1 q (List.mem_of_getElem? hq)
     have HV:Hid ((wr.alloc (.cells #[.int .i64 q.1.l,.slice q.2.1 q.1.r.length q.2.2,.int .i64 q.1.lv,.int .i64 q.1.a] 47)).heap[wr.heap.size]?=some (.cells #[.int .i64 q.1.l,.slice q.2.1 q.1.r.length q.2.2,.int .i64 q.1.lv,.int .i64 q.1.a] 47 (0,0))/\wr.heap.size<(wr.alloc (.cells #[.int .i64 q.1.l,.slice q.2.1 q.1.r.length q.2.2,.int .i64 q.1.lv,.int .i64 q.1.a] 47)).heap.size/\g<wr.heap.size):=⟨heap_alloc_new _ _,by rw [qt];omega,(qw ho (b:=g) rfl).2.1⟩
     have HI:Hid (cs.length=n/\(wr.alloc (.cells #[.int .i64 q.1.l,.slice q.2.1 q.1.r.length q.2.2,.int .i64 q.1.lv,.int .i64 q.1.a] 47)).ownsRow B 47 4 (.slice (some ⟨g,0,none⟩) n c) n (srC cs)/\cs.take i=(qs.take j).filter (fun q=>!pr q)/\cs.drop j=qs.drop j/\qs[j]?=some q/\Kept (fun k=>k=g) W (wr.alloc (.cells #[.int .i64 q.1.l,.slice q.2.1 q.1.r.length q.2.2,.int .i64 q.1.lv,.int .i64 q.1.a] 47))):=⟨hcl,ho.alloc _,ht,hd,hq,hk1⟩
     obtain ⟨⟨rl,rr,rlv,ra⟩,qa,qc⟩:=q
     simp only at d0 d1 d2 d3
     clear J hcl ho ht hd hq hqc hv hk1
     go_upto_region 8 with fail
     generalize wr.alloc _=U at HC HV HI ⊢
     obtain ⟨b7,HB⟩:∃ b7,Hid (b7=wr.heap.size):=⟨_,rfl⟩
     rw [<-HB.out] at HV ⊢
     obtain ⟨e0,e1,e2,e3⟩:U.cell? ⟨b7,0,none⟩=some (.int .i64 rl)/\U.cell? ⟨b7,1,none⟩=some (.slice qa rr.length qc)/\U.cell? ⟨b7,2,none⟩=some (.int .i64 rlv)/\U.cell? ⟨b7,3,none⟩=some (.int .i64 ra):=⟨by rw [qe HV.out.1];rfl,by rw [qe HV.out.1];rfl,by rw [qe HV.out.1];rfl,by rw [qe HV.out.1];rfl⟩
     clear d0 d1 d2 d3
     go_wp2_with fail
     refine HC.out.mono ?_
     rintro e U2 ⟨rfl,hb⟩
     clear e0 e1 e2 e3 HC
     obtain ⟨e0,e1,e2,e3⟩:U2.cell? ⟨b7,0,none⟩=some (.int .i64 rl)/\U2.cell? ⟨b7,1,none⟩=some (.slice qa rr.length qc)/\U2.cell? ⟨b7,2,none⟩=some (.int .i64 rlv)/\U2.cell? ⟨b7,3,none⟩=some (.int .i64 ra):=by
      have h7:=qf hb HV.out.1
      exact ⟨by rw [qe h7];rfl,by rw [qe h7];rfl,by rw [qe h7];rfl,by rw [qe h7];rfl⟩
     have HU:Hid (U2.ownsRow B 47 4 (.slice (some ⟨g,0,none⟩) n c) n (srC cs)/\Kept (fun k=>k=g) W U2):=⟨qh HI.out.2.1 (fun j hj=>hb.block j (qw HI.out.2.1 (zi hj)).2.1),HI.out.2.2.2.2.2.trans (zk (S:=fun k=>k=g) hb) (fun _ _ e=>e)⟩
     clear hb
     cases hp:pr (⟨rl,rr,rlv,ra⟩,qa,qc)
     ·have HF:Hid (DL W ((((U2.setCell ⟨g,i * 4,none⟩ (.int .i64 rl)).setCell ⟨g,i * 4+1,none⟩ (.slice qa rr.length qc)).setCell ⟨g,i * 4+2,none⟩ (.int .i64 rlv)).setCell ⟨g,i * 4+3,none⟩ (.int .i64 ra)) B g n c pr qs (i+1) (j+1)):=by
       refine ⟨HU.out.2.trans qof (fun _ _ e=>e),⟨_,?_,qpz HU.out.1 (by omega) (⟨rl,rr,rlv,ra⟩,qa,qc),?_,?_⟩,by omega⟩
       ·rw [List.length_set];exact HI.out.1
       ·rw [qle (by rw [HI.out.1];omega),HI.out.2.2.1,qbh HI.out.2.2.2.2.1,List.filter_append]
        simp [hp]
       ·rw [List.drop_set_of_lt (by omega),<-List.drop_drop,HI.out.2.2.2.1,List.drop_drop]
      obtain ⟨u0,u1,u2,u3,k0,k1,k2,k3,f0,f1,f2,f3⟩:=qm4 HU.out.1 (by omega:i<n) (.int .i64 rl) (.slice qa rr.length qc) (.int .i64 rlv)
      clear HU HI HV hp
      go_wp2_with fail
      go_roundg (n - (j+1))
      case measure=>omega
      case rel=>exact ⟨i+1,j+1,by simp,by simp,by omega,by omega,Nat.le_refl _,HF⟩
     ·have HF:Hid (DL W U2 B g n c pr qs i (j+1)):=by
       refine ⟨HU.out.2,⟨cs,HI.out.1,HU.out.1,?_,?_⟩,by omega⟩
       ·rw [qbh HI.out.2.2.2.2.1,List.filter_append,<-HI.out.2.2.1]
        simp [hp]
       ·rw [<-List.drop_drop,HI.out.2.2.2.1,List.drop_drop]
      clear HU HI HV hp
      go_wp2_with fail
      go_roundg (n - (j+1))
      case measure=>omega
      case rel=>exact ⟨i,j+1,rfl,by simp,by omega,by omega,Nat.le_refl _,HF⟩
    ·have hjn:j=n:=by omega
     subst hjn
     have hlt':¬ (j:Int)<(j:Int):=by omega
     go_wp2_with fail
     go_meet
     exact ⟨i,rfl,by omega,J⟩
  case rest =>
   obtain ⟨w8,hw8⟩:∃ w8,w8=wc:=⟨_,rfl⟩
   subst wc
   obtain ⟨i,rfl,hi,J⟩:=hcut
   obtain ⟨cs,hcl,ho,ht,-⟩:=J.out.own
   obtain ⟨W',hclr,ho2,hk2⟩:=qog ho hi
   have HF:Hid (W'.ownsRow B 47 4 (.slice (some ⟨g,0,none⟩) i c) i (srC (qs.filter (fun q=>!pr q)))/\Kept (fun k=>k=g) W W'):=by
    rw [ht,List.take_of_length_le (by rw [HL.out];exact Nat.le_refl _)] at ho2
    exact ⟨ho2,J.out.kep.trans hk2 (fun _ _ e=>e)⟩
   have hin:(i:Int)<=(n:Int):=by omega
   have hic:i<=c:=by omega
   clear J hcl ho ht ho2 hk2 HD
   go_wp2_with fail
   go_ret
   exact ⟨i,rfl,by omega,HF.out⟩
theorem qbp (W:World) (fb n cap:Nat) (a:Option Addr) (c1:W.cell? ⟨fb,1,none⟩=some (.slice a n cap)) (x:Int) :
  Calls Tryz.prog 51 #[.pointer (some ⟨fb,0,none⟩),.int .i64 x] W fun e w'=>e=.returned (.bool (decide (0<=x/\x<(n:Int))))/\w'=W:=by
 by_cases h0:0<=x
 ·by_cases h1:x<(n:Int)
  ·go_enter Tryz.func51,Tryz.ntmps51
   go_wp2_with fail
   go_ret
   exact ⟨by simp [h0,h1],rfl⟩
  ·go_enter Tryz.func51,Tryz.ntmps51
   go_wp2_with fail
   go_ret
   exact ⟨by simp [h1],rfl⟩
 ·go_enter Tryz.func51,Tryz.ntmps51
  go_wp2_with fail
  go_ret
  exact ⟨by simp;omega,rfl⟩
theorem jt (W:World) (fb tk n cap:Nat) (a:Option Addr) (c0:W.cell? ⟨fb,0,none⟩=some (.int .i64 (tk:Int))) (c1:W.cell? ⟨fb,1,none⟩=some (.slice a n cap)) (x:Int) :
  Calls Tryz.prog 46 #[.pointer (some ⟨fb,0,none⟩),.int .i64 x] W fun e w'=>e=.returned (.bool (decide ((tk:Int)<x/\x<(n:Int))))/\w'=W:=by
 by_cases h0:(tk:Int)<x
 ·go_enter Tryz.func46,Tryz.ntmps46
  go_wp2_with fail
  refine (qbp W fb n cap a c1 x).mono ?_
  rintro e w1 ⟨rfl,rfl⟩
  go_wp2_with fail
  go_ret
  exact ⟨by simp [h0];omega,rfl⟩
 ·go_enter Tryz.func46,Tryz.ntmps46
  go_wp2_with fail
  go_ret
  exact ⟨by simp;omega,rfl⟩
theorem qee (W:World) (fb tk n cap:Nat) (a:Option Addr) (c0:W.cell? ⟨fb,0,none⟩=some (.int .i64 (tk:Int))) (c1:W.cell? ⟨fb,1,none⟩=some (.slice a n cap)) (x:Int) :
  Calls Tryz.prog 49 #[.pointer (some ⟨fb,0,none⟩),.int .i64 x] W fun e w'=>e=.returned (.bool (decide (x≠(tk:Int)/\0<=x/\x<(n:Int))))/\w'=W:=by
 by_cases h0:x=(tk:Int)
 ·subst h0
  go_enter Tryz.func49,Tryz.ntmps49
  go_wp2_with fail
  go_ret
  exact ⟨by simp,rfl⟩
 ·have h1:(x == (tk:Int))=false:=by simpa using h0
  go_enter Tryz.func49,Tryz.ntmps49
  go_wp2_with fail
  refine (qbp W fb n cap a c1 x).mono ?_
  rintro e w1 ⟨rfl,rfl⟩
  go_wp2_with fail
  go_ret
  exact ⟨by simp [h0],rfl⟩
theorem yw (W:World) (fb n cap x:Nat) (a:Option Addr) (c1:W.cell? ⟨fb,1,none⟩=some (.slice a n cap)) (hn:n<=1000) (hx:x<n) :
  Calls Tryz.prog 48 #[.pointer (some ⟨fb,0,none⟩),.int .i64 (x:Int)] W fun e w'=>e=.returned (.int .i64 ((n+x:Nat):Int))/\w'=W:=by
 go_enter Tryz.func48,Tryz.ntmps48
 go_wp2_with fail
 go_ret
 exact ⟨by simp,rfl⟩
theorem qc0 (W:World) (fb eb n cap x:Nat) (b:Bool) (c1:W.cell? ⟨fb,1,none⟩=some (.slice (some ⟨eb,0,none⟩) n cap)) (hx:x<n) (cb:W.cell? ⟨eb,x,none⟩=some (.bool b)) :
  Calls Tryz.prog 23 #[.pointer (some ⟨fb,0,none⟩),.int .i64 (x:Int)] W fun e w'=>e=.returned (.bool b)/\w'=W:=by
 have hx':(x:Int)<(n:Int):=by omega
 have hx0:(0:Int)<=(x:Int):=by omega
 go_enter Tryz.func23,Tryz.ntmps23
 go_wp2_with fail
 refine (qbp W fb n cap _ c1 (x:Int)).mono ?_
 rintro e w1 ⟨rfl,rfl⟩
 have hd:decide (0<=(x:Int)/\(x:Int)<(n:Int))=true:=by simp [hx]
 rw [hd]
 go_wp2_with fail
 go_ret
 exact ⟨rfl,rfl⟩
structure FP where
 eb:Nat
 ob:Nat
 oc:Nat
 vs:List (Option Addr × Nat)
structure FM (W:World) (B fb:Nat) (p:FP) (n tk:Nat) (E:List Bool) (WL:List (List Nat)):Prop where
 box:W.heap[fb]?=some (.cells #[.int .i64 (tk:Int),.slice (some ⟨p.eb,0,none⟩) n n,.slice (some ⟨p.ob,0,none⟩) WL.length p.oc] 78 (0,0))
 new:B<=fb
 el:E.length=n
 emp:W.ownsRow B 4 1 (.slice (some ⟨p.eb,0,none⟩) n n) n (booC E)
 len:p.vs.length=WL.length
 bod:W.ownsRow B 26 1 (.slice (some ⟨p.ob,0,none⟩) WL.length p.oc) WL.length (grC p.vs WL)
 row:∀ (x:Nat) (q:Option Addr × Nat) (l:List Nat),p.vs[x]?=some q->WL[x]?=some l->W.ownsRow B 3 1 (.slice q.1 l.length q.2) l.length (natC l)
 dis:∀ (x y:Nat) (q r:Option Addr × Nat) (k:Nat),x≠y->p.vs[x]?=some q->p.vs[y]?=some r->blk q.1=some k->blk r.1≠some k
def FK (fb:Nat) (p:FP) (k:Nat):Prop:=k=fb\/k=p.eb\/k=p.ob\/GR p.vs k
theorem FM.lt {W:World} {B fb n tk:Nat} {p:FP} {E:List Bool} {WL:List (List Nat)} (h:FM W B fb p n tk E WL) {k:Nat} (hk:FK fb p k):B<=k/\k<W.heap.size/\(Loc W k 78\/Loc W k 4\/Loc W k 26\/Loc W k 3):=by
 rcases hk with rfl | rfl | rfl | ⟨x,q,hq,hb⟩
 ·exact ⟨h.new,(Array.getElem?_eq_some_iff.1 h.box).1,.inl ⟨_,h.box⟩⟩
 ·have:=qw h.emp (b:=p.eb) rfl
  exact ⟨this.1,this.2.1,.inr (.inl this.2.2)⟩
 ·have:=qw h.bod (b:=p.ob) rfl
  exact ⟨this.1,this.2.1,.inr (.inr (.inl this.2.2))⟩
 ·have hx:x<WL.length:=by rw [<-h.len];exact (List.getElem?_eq_some_iff.1 hq).1
  have:=qw (h.row x q WL[x] hq (List.getElem?_eq_getElem hx)) hb
  exact ⟨this.1,this.2.1,.inr (.inr (.inr this.2.2))⟩
theorem FM.not {W:World} {B fb n tk:Nat} {p:FP} {E:List Bool} {WL:List (List Nat)} (h:FM W B fb p n tk E WL) {k T:Nat} (hl:Loc W k T) (h1:T≠78) (h2:T≠4) (h3:T≠26) (h4:T≠3):¬ FK fb p k:=by
 intro hk
 rcases (h.lt hk).2.2 with e | e | e | e
 ·exact qr hl e h1 rfl
 ·exact qr hl e h2 rfl
 ·exact qr hl e h3 rfl
 ·exact qr hl e h4 rfl
theorem FM.keep {W W':World} {B fb n tk:Nat} {p:FP} {E:List Bool} {WL:List (List Nat)} (h:FM W B fb p n tk E WL) (hk:∀ k,FK fb p k->W'.heap[k]?=W.heap[k]?):FM W' B fb p n tk E WL:=by
 refine ⟨by rw [hk fb (.inl rfl)];exact h.box,h.new,h.el,?_,h.len,?_,fun x q l hq hl=>?_,h.dis⟩
 ·exact qh h.emp (fun i hi=>by cases hi;exact hk _ (.inr (.inl rfl)))
 ·exact qh h.bod (fun i hi=>by cases hi;exact hk _ (.inr (.inr (.inl rfl))))
 ·exact qh (h.row x q l hq hl) (fun i hi=>hk i (.inr (.inr (.inr ⟨x,q,hq,zi hi⟩))))
theorem FM.below {W W':World} {B fb n tk:Nat} {p:FP} {E:List Bool} {WL:List (List Nat)} (h:FM W B fb p n tk E WL) (hb:Below W.heap.size W W'):FM W' B fb p n tk E WL :=
 h.keep (fun k hk=>hb.block k (h.lt hk).2.1)
theorem FM.kept {W W':World} {F:Nat->Prop} {B fb n tk:Nat} {p:FP} {E:List Bool} {WL:List (List Nat)} (h:FM W B fb p n tk E WL) (k:Kept F W W') (hf:∀ j,FK fb p j->¬ F j):FM W' B fb p n tk E WL :=
 h.keep (fun j hj=>k.block j (h.lt hj).2.1 (hf j hj))
def FV (W:World) (fb:Nat) (p:FP) (W':World) (p':FP):Prop:=Kept (FK fb p) W W'/\∀ k,FK fb p' k->FK fb p k\/W.heap.size<=k
theorem FV.refl (W:World) (fb:Nat) (p:FP):FV W fb p W p:=⟨Kept.refl _ _,fun _ h=>.inl h⟩
theorem FV.trans {W W1 W2:World} {fb:Nat} {p p1 p2:FP} (h:FV W fb p W1 p1) (k:FV W1 fb p1 W2 p2):FV W fb p W2 p2:=by
 refine ⟨h.1.trans k.1 (fun j hj e=>?_),fun j hj=>?_⟩
 ·rcases h.2 j e with h1 | h1
  ·exact h1
  ·omega
 ·rcases k.2 j hj with h1 | h1
  ·exact h.2 j h1
  ·exact .inr (Nat.le_trans h.1.size h1)
theorem FV.below {W W':World} {B fb n tk:Nat} {p p':FP} {E:List Bool} {WL:List (List Nat)} (h:FM W B fb p n tk E WL) (hB:B<=W.heap.size) (v:FV W fb p W' p'):Below B W W' :=
 v.1.below hB (fun k hk e=>by have:=(h.lt e).1;omega)
theorem FM.c0 {W:World} {B fb n tk:Nat} {p:FP} {E:List Bool} {WL:List (List Nat)} (h:FM W B fb p n tk E WL):W.cell? ⟨fb,0,none⟩=some (.int .i64 (tk:Int)):=by rw [qe h.box];rfl
theorem FM.c1 {W:World} {B fb n tk:Nat} {p:FP} {E:List Bool} {WL:List (List Nat)} (h:FM W B fb p n tk E WL):W.cell? ⟨fb,1,none⟩=some (.slice (some ⟨p.eb,0,none⟩) n n):=by rw [qe h.box];rfl
theorem FM.c2 {W:World} {B fb n tk:Nat} {p:FP} {E:List Bool} {WL:List (List Nat)} (h:FM W B fb p n tk E WL):W.cell? ⟨fb,2,none⟩=some (.slice (some ⟨p.ob,0,none⟩) WL.length p.oc):=by rw [qe h.box];rfl
theorem FM.ce {W:World} {B fb n tk:Nat} {p:FP} {E:List Bool} {WL:List (List Nat)} (h:FM W B fb p n tk E WL) {x:Nat} (hx:x<n):W.cell? ⟨p.eb,x,none⟩=some (.bool (isF E x)):=by
 have hxe:x<E.length:=by rw [h.el];exact hx
 have:=h.emp.cellAt x (by omega)
 rw [this]
 unfold booC
 rw [List.getElem?_map,vm hxe]
 rfl
theorem FM.at {W:World} {B fb n tk:Nat} {p:FP} {E:List Bool} {WL:List (List Nat)} (h:FM W B fb p n tk E WL) {x:Nat} {l:List Nat} (hl:WL[x]?=some l):∃ q,p.vs[x]?=some q/\W.cell? ⟨p.ob,x,none⟩=some (.slice q.1 l.length q.2)/\W.frozen? ⟨p.ob,x,none⟩=false:=by
 have hx:x<WL.length:=(List.getElem?_eq_some_iff.1 hl).1
 have hp:p.vs[x]?=some (p.vs[x]'(by rw [h.len];exact hx)):=List.getElem?_eq_getElem _
 refine ⟨_,hp,?_,h.bod.frozenAt x⟩
 rw [h.bod.cellAt x (by omega)]
 unfold grC
 have hz:(p.vs.zip WL)[x]?=some (p.vs[x]'(by rw [h.len];exact hx),l):=by rw [List.getElem?_zip_eq_some];exact ⟨hp,hl⟩
 rw [List.getElem?_map,hz]
 rfl
theorem FM.lay {W:World} {B fb n tk:Nat} {p:FP} {E:List Bool} {WL:List (List Nat)} (h:FM W B fb p n tk E WL) (hB:B<=W.heap.size) {x i:Nat} {l:List Nat} {q:Option Addr × Nat} (hl:WL[x]?=some l) (hp:p.vs[x]?=some q) (hn:l.length<100000) :
  ∃ g c W',(Builtin.append_ #[26,26] 26 #[.slice q.1 l.length q.2,.slice (some ⟨W.heap.size,0,none⟩) 1 1]).run Tryz.prog (W.alloc (.cells #[.int .i64 (i:Int)] 3))=.ok (.slice (some ⟨g,0,none⟩) (l.length+1) c) W' /\
   W'.cell? ⟨fb,2,none⟩=some (.slice (some ⟨p.ob,0,none⟩) WL.length p.oc)/\W'.cell? ⟨p.ob,x,none⟩=some (.slice q.1 l.length q.2)/\W'.frozen? ⟨p.ob,x,none⟩=false /\
   FM (W'.setCell ⟨p.ob,x,none⟩ (.slice (some ⟨g,0,none⟩) (l.length+1) c)) B fb ⟨p.eb,p.ob,p.oc,p.vs.set x (some ⟨g,0,none⟩,c)⟩ n tk E (WL.set x (l++[i]))/\FV W fb p (W'.setCell ⟨p.ob,x,none⟩ (.slice (some ⟨g,0,none⟩) (l.length+1) c)) ⟨p.eb,p.ob,p.oc,p.vs.set x (some ⟨g,0,none⟩,c)⟩:=by
 obtain ⟨g,c,W',hr,ho,hk,hg⟩:=jc (us:=[.int .i64 (i:Int)]) u29 i3 rfl (by decide) (by decide) rfl (fun u hu=>by rw [List.mem_singleton] at hu;subst hu;rfl) (h.row x q l hp hl) hB hn
 have hx:x<WL.length:=(List.getElem?_eq_some_iff.1 hl).1
 have hxv:x<p.vs.length:=by rw [h.len];exact hx
 have hG:∀ k,blk q.1=some k->GR p.vs k:=fun k e=>⟨x,q,hp,e⟩
 have k0:Kept (fun k=>blk q.1=some k) W W':=((Kept.refl _ W).alloc _).trans hk (fun k _ e=>zi e)
 have hg':blk q.1=some g\/W.heap.size<=g:=hg.imp zi id
 have lob:Loc W p.ob 26:=(qw h.bod (b:=p.ob) rfl).2.2
 have lq:∀ k,blk q.1=some k->Loc W k 3:=fun k e=>(qw (h.row x q l hp hl) e).2.2
 have hwb:¬ blk q.1=some p.ob:=fun e=>qr (lq _ e) lob (by decide) rfl
 have hqb:¬ blk q.1=some fb:=fun e=>qr (lq _ e) ⟨_,h.box⟩ (by decide) rfl
 have hqe:¬ blk q.1=some p.eb:=fun e=>qr (lq _ e) (qw h.emp (b:=p.eb) rfl).2.2 (by decide) rfl
 have b1:W'.heap[fb]?=some (.cells #[.int .i64 (tk:Int),.slice (some ⟨p.eb,0,none⟩) n n,.slice (some ⟨p.ob,0,none⟩) WL.length p.oc] 78 (0,0)):=(k0.block fb (h.lt (.inl rfl)).2.1 hqb).trans h.box
 have gb:W'.ownsRow B 26 1 (.slice (some ⟨p.ob,0,none⟩) WL.length p.oc) WL.length (grC p.vs WL):=qh h.bod (fun j hj=>by cases hj;exact k0.block _ (h.lt (.inr (.inr (.inl rfl)))).2.1 hwb)
 have ge:W'.ownsRow B 4 1 (.slice (some ⟨p.eb,0,none⟩) n n) n (booC E):=qh h.emp (fun j hj=>by cases hj;exact k0.block _ (h.lt (.inr (.inl rfl))).2.1 hqe)
 have hgl:g≠p.ob:=fun e=>qr (qx ho rfl) (qx gb rfl) (by decide) e
 obtain ⟨q',hp',c1,-⟩:=h.at hl
 rw [hp] at hp'
 cases hp'
 have c2:W'.cell? ⟨p.ob,x,none⟩=some (.slice q.1 l.length q.2):=by
  have:W'.heap[p.ob]?=W.heap[p.ob]?:=k0.block _ (h.lt (.inr (.inr (.inl rfl)))).2.1 hwb
  unfold World.cell? at c1 ⊢
  rw [this]
  exact c1
 have nfo:fb≠p.ob:=qr ⟨_,b1⟩ (qx gb rfl) (by decide)
 have neo:p.eb≠p.ob:=qr (qx ge rfl) (qx gb rfl) (by decide)
 refine ⟨g,c,W',hr,by rw [qe b1];rfl,c2,gb.frozenAt x,⟨?_,h.new,h.el,?_,?_,?_,?_,?_⟩,?_,?_⟩
 ·rw [Below.heap_setCell _ _ _ _ nfo,List.length_set]
  exact b1
 ·exact qh ge (fun j hj=>by cases hj;exact Below.heap_setCell _ _ _ _ neo)
 ·rw [List.length_set,List.length_set];exact h.len
 ·have s1:=(gb.stored x (.slice (some ⟨g,0,none⟩) (l.length+1) c)).1
  rw [List.length_set]
  have e:grC (p.vs.set x (some ⟨g,0,none⟩,c)) (WL.set x (l++[i]))=(grC p.vs WL).set x (.slice (some ⟨g,0,none⟩) (l.length+1) c):=by
   unfold grC
   rw [qde,List.map_set]
   simp
  rw [e]
  exact s1
 ·intro y r m hq hm
  rw [List.getElem?_set] at hq hm
  by_cases hy:x=y
  ·subst hy
   rw [if_pos rfl,if_pos hxv] at hq
   rw [if_pos rfl,if_pos hx] at hm
   cases hq
   cases hm
   rw [jf,List.length_append]
   exact qh ho (fun j hj=>by cases hj;exact Below.heap_setCell _ _ _ _ hgl)
  ·rw [if_neg hy] at hq hm
   have hro:=h.row y r m hq hm
   refine qh hro (fun j hj=>?_)
   have hj':=zi hj
   rw [Below.heap_setCell _ _ _ _ (qr (qx hro hj) lob (by decide)),k0.block j (qw hro hj').2.1 (fun e=>h.dis x y q r j hy hp hq e hj')]
 ·intro y z r s k hyz hq hr hb
  rw [List.getElem?_set] at hq hr
  have old:∀ (u:Nat) (s:Option Addr × Nat),p.vs[u]?=some s->x≠u->blk s.1=some g->False:=by
   intro u s hs hxu hb2
   rcases hg' with h1 | h1
   ·exact h.dis x u q s g hxu hp hs h1 hb2
   ·have:=(h.lt (.inr (.inr (.inr ⟨u,s,hs,hb2⟩)))).2.1
    omega
  by_cases h1:x=y
  ·subst h1
   rw [if_pos rfl,if_pos hxv] at hq
   rw [if_neg hyz] at hr
   cases hq
   cases hb
   exact fun e=>old z s hr hyz e
  ·rw [if_neg h1] at hq
   by_cases h2:x=z
   ·subst h2
    rw [if_pos rfl,if_pos hxv] at hr
    cases hr
    intro e
    cases e
    exact old y r hq h1 hb
   ·rw [if_neg h2] at hr
    exact h.dis y z r s k hyz hq hr hb
 ·exact Kept.setCell (k0.weaken (fun k e=>.inr (.inr (.inr (hG k e))))) _ _ (fun _=>.inr (.inr (.inl rfl)))
 ·rintro k (rfl | rfl | rfl | ⟨y,r,hq,hb⟩)
  ·exact .inl (.inl rfl)
  ·exact .inl (.inr (.inl rfl))
  ·exact .inl (.inr (.inr (.inl rfl)))
  ·rw [List.getElem?_set] at hq
   by_cases hy:x=y
   ·subst hy
    rw [if_pos rfl,if_pos hxv] at hq
    cases hq
    cases hb
    exact hg'.imp (fun e=>.inr (.inr (.inr (hG _ e)))) id
   ·rw [if_neg hy] at hq
    exact .inl (.inr (.inr (.inr ⟨y,r,hq,hb⟩)))
theorem FM.fork {W:World} {B fb n tk:Nat} {p:FP} {E:List Bool} {WL:List (List Nat)} (h:FM W B fb p n tk E WL) (hB:B<=W.heap.size) (a b:Nat) (hn:WL.length<100000) :
  ∃ g c W',(Builtin.append_ #[38,38] 38 #[.slice (some ⟨p.ob,0,none⟩) WL.length p.oc,.slice (some ⟨W.heap.size+1,0,none⟩) 1 1]).run Tryz.prog ((W.alloc (.cells #[.int .i64 (a:Int),.int .i64 (b:Int)] 3)).alloc (.cells #[.slice (some ⟨W.heap.size,0,none⟩) 2 2] 26))=.ok (.slice (some ⟨g,0,none⟩) (WL.length+1) c) W' /\
   W'.cell? ⟨fb,2,none⟩=some (.slice (some ⟨p.ob,0,none⟩) WL.length p.oc)/\W'.frozen? ⟨fb,2,none⟩=false /\
   FM (W'.setCell ⟨fb,2,none⟩ (.slice (some ⟨g,0,none⟩) (WL.length+1) c)) B fb ⟨p.eb,g,c,p.vs++[(some ⟨W.heap.size,0,none⟩,2)]⟩ n tk E (WL++[[a,b]])/\FV W fb p (W'.setCell ⟨fb,2,none⟩ (.slice (some ⟨g,0,none⟩) (WL.length+1) c)) ⟨p.eb,g,c,p.vs++[(some ⟨W.heap.size,0,none⟩,2)]⟩:=by
 have hb1:Below W.heap.size W (W.alloc (.cells #[.int .i64 (a:Int),.int .i64 (b:Int)] 3)):=qb _ _
 have h1:=h.below hb1
 have hs1:(W.alloc (.cells #[.int .i64 (a:Int),.int .i64 (b:Int)] 3)).heap.size=W.heap.size+1:=qt _ _
 have hn1:(W.alloc (.cells #[.int .i64 (a:Int),.int .i64 (b:Int)] 3)).heap[W.heap.size]?=some (.cells #[.int .i64 (a:Int),.int .i64 (b:Int)] 3 (0,0)):=heap_alloc_new _ _
 obtain ⟨g,c,W',hr,ho,hk,hg⟩:=jc (us:=[.slice (some ⟨W.heap.size,0,none⟩) 2 2]) u39 i29 rfl (by decide) (by decide) rfl (fun u hu=>by rw [List.mem_singleton] at hu;subst hu;rfl) h1.bod (by rw [hs1];omega) hn
 rw [hs1] at hr hg
 have k0:Kept (fun k=>k=p.ob) W W':=((Kept.refl _ W).alloc _).trans (((Kept.refl _ _).alloc _).trans hk (fun k _ e=>(by cases e;rfl))) (fun k _ e=>e)
 have hg':g=p.ob\/W.heap.size+1<=g:=hg.imp (fun e=>by cases e;rfl) id
 have lob:Loc W p.ob 26:=(qw h.bod (b:=p.ob) rfl).2.2
 have nfo:fb≠p.ob:=qr ⟨_,h.box⟩ lob (by decide)
 have neo:p.eb≠p.ob:=qr (qw h.emp (b:=p.eb) rfl).2.2 lob (by decide)
 have nfe:p.eb≠fb:=qr (qw h.emp (b:=p.eb) rfl).2.2 ⟨_,h.box⟩ (by decide)
 have b1:W'.heap[fb]?=some (.cells #[.int .i64 (tk:Int),.slice (some ⟨p.eb,0,none⟩) n n,.slice (some ⟨p.ob,0,none⟩) WL.length p.oc] 78 (0,0)):=(k0.block fb (h.lt (.inl rfl)).2.1 nfo).trans h.box
 have hnw:W'.heap[W.heap.size]?=some (.cells #[.int .i64 (a:Int),.int .i64 (b:Int)] 3 (0,0)):=by
  have k1:Kept (fun k=>k=p.ob) (W.alloc (.cells #[.int .i64 (a:Int),.int .i64 (b:Int)] 3)) W':=((Kept.refl _ _).alloc _).trans hk (fun k _ e=>(by cases e;rfl))
  rw [k1.block _ (by rw [hs1];omega) (fun e=>by have:=(h.lt (.inr (.inr (.inl e)))).2.1;omega)]
  exact hn1
 have nga:g≠fb:=by
  rcases hg' with rfl | h2
  ·exact Ne.symm nfo
  ·have:=(h.lt (.inl (rfl:fb=fb))).2.1;omega
 refine ⟨g,c,W',hr,by rw [qe b1];rfl,qi b1 2,⟨?_,h.new,h.el,?_,?_,?_,?_,?_⟩,?_,?_⟩
 ·rw [setCell_eq_setRow W' fb 2 _ 78 (0,0) _ b1,List.length_append]
  exact setRow_heap _ _ _ _ 78 _ b1
 ·exact qh h.emp (fun j hj=>by cases hj;rw [Below.heap_setCell _ _ _ _ nfe,k0.block _ (h.lt (.inr (.inl rfl))).2.1 neo])
 ·rw [List.length_append,List.length_append,h.len];rfl
 ·have e:grC (p.vs++[(some ⟨W.heap.size,0,none⟩,2)]) (WL++[[a,b]])=grC p.vs WL++[.slice (some ⟨W.heap.size,0,none⟩) 2 2]:=by
   unfold grC
   rw [List.zip_append h.len,List.map_append]
   rfl
  rw [e,List.length_append]
  exact qh ho (fun j hj=>by cases hj;exact Below.heap_setCell _ _ _ _ nga)
 ·intro x q l hq hl
  rcases Nat.lt_or_ge x WL.length with hx | hx
  ·rw [List.getElem?_append_left (by rw [h.len];exact hx)] at hq
   rw [List.getElem?_append_left hx] at hl
   have hro:=h.row x q l hq hl
   refine qh hro (fun j hj=>?_)
   have hl3:=qx hro hj
   rw [Below.heap_setCell _ _ _ _ (qr hl3 ⟨_,h.box⟩ (by decide)),k0.block j (qw hro (zi hj)).2.1 (qr hl3 lob (by decide))]
  ·have hxl:=(List.getElem?_eq_some_iff.1 hl).1
   rw [List.length_append] at hxl
   simp only [List.length_singleton] at hxl
   have hx2:x=WL.length:=by omega
   subst hx2
   rw [List.getElem?_append_right (Nat.le_refl _),Nat.sub_self] at hl
   rw [<-h.len,List.getElem?_append_right (Nat.le_refl _),Nat.sub_self] at hq
   cases hq
   cases hl
   have hne:W.heap.size≠fb:=by have:=(h.lt (.inl (rfl:fb=fb))).2.1;omega
   refine ⟨rfl,.inr ⟨W.heap.size,2,#[.int .i64 (a:Int),.int .i64 (b:Int)],rfl,hB,?_,Nat.le_refl 2,by unfold maxLen;omega,rfl,rfl⟩⟩
   rw [Below.heap_setCell _ _ _ _ hne];exact hnw
 ·intro x y q r k hxy hq hr hb
  have key:∀ (z:Nat) (s:Option Addr × Nat),(p.vs++[(some ⟨W.heap.size,0,none⟩,2)])[z]?=some s->(p.vs[z]?=some s/\∀ k,blk s.1=some k->k<W.heap.size)\/(z=p.vs.length/\s=(some ⟨W.heap.size,0,none⟩,2)):=by
   intro z s hs
   rcases Nat.lt_or_ge z p.vs.length with hz | hz
   ·rw [List.getElem?_append_left hz] at hs
    exact .inl ⟨hs,fun k e=>(h.lt (.inr (.inr (.inr ⟨z,s,hs,e⟩)))).2.1⟩
   ·have hzl:=(List.getElem?_eq_some_iff.1 hs).1
    rw [List.length_append] at hzl
    simp only [List.length_singleton] at hzl
    have hz2:z=p.vs.length:=by omega
    subst hz2
    rw [List.getElem?_append_right (Nat.le_refl _),Nat.sub_self] at hs
    cases hs
    exact .inr ⟨rfl,rfl⟩
  rcases key x q hq with ⟨h2,h3⟩ | ⟨h2,rfl⟩
  ·rcases key y r hr with ⟨h4,h5⟩ | ⟨h4,rfl⟩
   ·exact h.dis x y q r k hxy h2 h4 hb
   ·intro e
    cases e
    exact absurd (h3 _ hb) (Nat.lt_irrefl _)
  ·rcases key y r hr with ⟨h4,h5⟩ | ⟨h4,rfl⟩
   ·cases hb
    intro e
    exact absurd (h5 _ e) (Nat.lt_irrefl _)
   ·omega
 ·exact Kept.setCell (k0.weaken (fun k e=>.inr (.inr (.inl e)))) _ _ (fun _=>.inl rfl)
 ·rintro k (rfl | rfl | rfl | ⟨y,r,hq,hb⟩)
  ·exact .inl (.inl rfl)
  ·exact .inl (.inr (.inl rfl))
  ·rcases hg' with rfl | h2
   ·exact .inl (.inr (.inr (.inl rfl)))
   ·exact .inr (by show W.heap.size<=k;omega)
  ·simp only at hq
   rcases Nat.lt_or_ge y p.vs.length with hz | hz
   ·rw [List.getElem?_append_left hz] at hq
    exact .inl (.inr (.inr (.inr ⟨y,r,hq,hb⟩)))
   ·rw [List.getElem?_append_right hz] at hq
    have hq2:=List.mem_of_getElem? hq
    rw [List.mem_singleton] at hq2
    subst hq2
    cases hb
    exact .inr (Nat.le_refl _)
theorem qdf (W:World) (B fb n tk:Nat) (p:FP) (E:List Bool) (WL:List (List Nat)) (h:FM W B fb p n tk E WL) (hB:B<=W.heap.size) (x i:Nat) (l:List Nat) (hl:WL[x]?=some l) (hn:l.length<100000) :
  Calls Tryz.prog 47 #[.pointer (some ⟨fb,0,none⟩),.int .i64 (x:Int),.int .i64 (i:Int)] W fun e W'=>e=.returned (.tuple #[])/\∃ p',p'.eb=p.eb/\FM W' B fb p' n tk E (WL.set x (l++[i]))/\FV W fb p W' p':=by
 have hD:=h.below (qk W)
 obtain ⟨q,hq,c1,-⟩:=h.at hl
 obtain ⟨g,c,W',hrun,d2,d1,f1,hF,hV⟩:=hD.lay (i:=i) (by exact hB) hl hq hn
 have hx:x<WL.length:=(List.getElem?_eq_some_iff.1 hl).1
 have hob:=z8 h.bod
 have hql:=z8 (h.row x q l hq hl)
 have c2:=h.c2
 have k0:Kept (FK fb p) W W.drew:=(Kept.refl _ W).drew
 have HF:Hid (∃ p',p'.eb=p.eb/\FM (W'.setCell ⟨p.ob,x,none⟩ (.slice (some ⟨g,0,none⟩) (l.length+1) c)) B fb p' n tk E (WL.set x (l++[i]))/\FV W fb p (W'.setCell ⟨p.ob,x,none⟩ (.slice (some ⟨g,0,none⟩) (l.length+1) c)) p'):=⟨⟨p.eb,p.ob,p.oc,p.vs.set x (some ⟨g,0,none⟩,c)⟩,rfl,hF,FV.trans (show FV W fb p W.drew p from ⟨k0,fun _ e=>.inl e⟩) hV⟩
 have nfo:fb≠p.ob:=qr ⟨_,h.box⟩ (qw h.bod (b:=p.ob) rfl).2.2 (by decide)
 have s2:(W'.setCell ⟨p.ob,x,none⟩ (.slice (some ⟨g,0,none⟩) (l.length+1) c)).cell? ⟨fb,2,none⟩=some (.slice (some ⟨p.ob,0,none⟩) WL.length p.oc):=qz d2 nfo
 have hrun2:(Builtin.append_ #[26,26] 26 #[.slice q.1 l.length q.2,.slice (some ⟨W.heap.size,0,none⟩) 1 1]).run Tryz.prog (W.alloc (.cells #[.int .i64 (i:Int)] 3)).drew=.ok (.slice (some ⟨g,0,none⟩) (l.length+1) c) W':=hrun
 obtain ⟨qa,qc⟩:=q
 simp only at hrun2 c1 d1 hql
 clear hD h hF hV hrun hq k0
 generalize WL.length=wn at *
 have hx':(x:Int)<(wn:Int):=by omega
 go_enter Tryz.func47,Tryz.ntmps47
 go_upto_region 0 with fail
 have c2':=qo c2 (.cells #[.int .i64 (i:Int)] 3)
 have c1':=qo c1 (.cells #[.int .i64 (i:Int)] 3)
 refine wp_region_held_drew (S:=fun w'=>w'.cell? ⟨fb,2,none⟩=some (.slice (some ⟨p.ob,0,none⟩) wn p.oc)/\True) (by kernel_rfl) ⟨c2,trivial⟩ (fun hHeld=>?_)
 refine wpAnyH_take (i:=0) (v:=.pointer (some ⟨fb,0,none⟩)) rfl (by kernel_rfl) (by kernel_rfl) (by kernel_rfl) (fun _ _ _ h=>h) (Or.inl ⟨by rfl,fun w9 hSw=>?_⟩) hHeld ?_
 ·(obtain ⟨hs1,-⟩:=hSw;go_simp)
 simp only [Act.put]
 refine wpAnyH_take (i:=1) (v:=.pointer (some ⟨fb,0,none⟩)) rfl (by kernel_rfl) (by kernel_rfl) (by kernel_rfl) (fun _ _ _ h=>h) (Or.inl ⟨by rfl,fun w9 hSw=>?_⟩) hHeld ?_
 ·(obtain ⟨hs1,-⟩:=hSw;go_simp)
 simp only [Act.put]
 refine wpAnyH_take (i:=2) (v:=.pointer (some ⟨fb,2,none⟩)) rfl (by kernel_rfl) (by kernel_rfl) (by kernel_rfl) (fun _ _ _ h=>h) (Or.inl ⟨by rfl,fun w9 hSw=>?_⟩) hHeld ?_
 ·(obtain ⟨hs1,-⟩:=hSw;go_simp)
 simp only [Act.put]
 refine wpAnyH_take (i:=3) (v:=(.slice (some ⟨p.ob,0,none⟩) wn p.oc)) rfl (by kernel_rfl) (by kernel_rfl) (by kernel_rfl) (fun _ _ _ h=>h) (Or.inl ⟨by rfl,fun w9 hSw=>?_⟩) hHeld ?_
 ·(obtain ⟨hs1,-⟩:=hSw;go_simp)
 simp only [Act.put]
 refine wpAnyH_take (i:=4) (v:=.int .i64 (x:Int)) rfl (by kernel_rfl) (by kernel_rfl) (by kernel_rfl) (fun _ _ _ h=>h) (Or.inl ⟨by rfl,fun w9 hSw=>?_⟩) hHeld ?_
 ·(obtain ⟨hs1,-⟩:=hSw;go_simp)
 simp only [Act.put]
 refine wpAnyH_take (i:=5) (v:=.pointer (some ⟨fb,0,none⟩)) rfl (by kernel_rfl) (by kernel_rfl) (by kernel_rfl) (fun _ _ _ h=>h) (Or.inl ⟨by rfl,fun w9 hSw=>?_⟩) hHeld ?_
 ·(obtain ⟨hs1,-⟩:=hSw;go_simp)
 simp only [Act.put]
 refine wpAnyH_take (i:=6) (v:=.pointer (some ⟨fb,0,none⟩)) rfl (by kernel_rfl) (by kernel_rfl) (by kernel_rfl) (fun _ _ _ h=>h) (Or.inl ⟨by rfl,fun w9 hSw=>?_⟩) hHeld ?_
 ·(obtain ⟨hs1,-⟩:=hSw;go_simp)
 simp only [Act.put]
 refine wpAnyH_take (i:=7) (v:=.pointer (some ⟨fb,2,none⟩)) rfl (by kernel_rfl) (by kernel_rfl) (by kernel_rfl) (fun _ _ _ h=>h) (Or.inl ⟨by rfl,fun w9 hSw=>?_⟩) hHeld ?_
 ·(obtain ⟨hs1,-⟩:=hSw;go_simp)
 simp only [Act.put]
 refine wpAnyH_take (i:=8) (v:=(.slice (some ⟨p.ob,0,none⟩) wn p.oc)) rfl (by kernel_rfl) (by kernel_rfl) (by kernel_rfl) (fun _ _ _ h=>h) (Or.inl ⟨by rfl,fun w9 hSw=>?_⟩) hHeld ?_
 ·(obtain ⟨hs1,-⟩:=hSw;go_simp)
 simp only [Act.put]
 refine wpAnyH_take (i:=9) (v:=.int .i64 (x:Int)) rfl (by kernel_rfl) (by kernel_rfl) (by kernel_rfl) (fun _ _ _ h=>h) (Or.inl ⟨by rfl,fun w9 hSw=>?_⟩) hHeld ?_
 ·(obtain ⟨hs1,-⟩:=hSw;go_simp)
 simp only [Act.put]
 refine wpAnyH_take (i:=10) (v:=.pointer (some ⟨p.ob,x,none⟩)) rfl (by kernel_rfl) (by kernel_rfl) (by kernel_rfl) (fun _ _ _ h=>h) (Or.inl ⟨by rfl,fun w9 hSw=>?_⟩) hHeld ?_
 ·(obtain ⟨hs1,-⟩:=hSw;go_simp)
 simp only [Act.put]
 refine wpAnyH_take (i:=12) (v:=.int .i64 (i:Int)) rfl (by kernel_rfl) (by kernel_rfl) (by kernel_rfl) (fun _ _ _ h=>h) (Or.inl ⟨by rfl,fun w9 hSw=>?_⟩) hHeld ?_
 ·(obtain ⟨hs1,-⟩:=hSw;go_simp)
 simp only [Act.put]
 refine wpAnyH_ready (rs:=[11,13]) (by kernel_rfl) (by simp) ?_
 refine AllReadyH.cons rfl (fun K hK=>?_) (AllReadyH.cons rfl (fun K hK=>?_) AllReadyH.nil)
 ·go_simp
  refine hK.out _ _ ⟨c2,trivial⟩ (fun hHeld=>?_)
  clear hK K
  refine wpAnyH_ready (rs:=[13]) (by kernel_rfl) (by simp) ?_
  refine AllReadyH.cons rfl (fun K hK=>?_) AllReadyH.nil
  go_simp
  refine hK.out _ _ ⟨c2',trivial⟩ (fun hHeld=>?_)
  clear hK K
  refine wpAnyH_ready (rs:=[14]) (by kernel_rfl) (by simp) ?_
  refine AllReadyH.cons rfl (fun K hK=>?_) AllReadyH.nil
  refine zc rfl (.tmp 17) (.tmp 19) rfl rfl (by simp [Act.eval]) (by simp [Act.eval]) hrun2 (hK.out _ _ ⟨d2,trivial⟩ (fun hHeld=>?_))
  simp only [Act.put]
  clear hK K
  refine wpAnyH_take (i:=15) (v:=.pointer (some ⟨p.ob,x,none⟩)) rfl (by kernel_rfl) (by kernel_rfl) (by kernel_rfl) (fun _ _ _ h=>h) (Or.inl ⟨by rfl,fun w9 hSw=>?_⟩) hHeld ?_
  ·(obtain ⟨hs1,-⟩:=hSw;go_simp)
  simp only [Act.put]
  refine wpAnyH_ready (rs:=[16]) (by kernel_rfl) (by simp) ?_
  refine AllReadyH.cons rfl (fun K hK=>?_) AllReadyH.nil
  go_simp
  refine hK.out _ _ ⟨s2,trivial⟩ (fun hHeld=>?_)
  clear hK K
  refine wpAnyH_done (by kernel_rfl) ?_ _
  go_wp2_with fail
  go_end0
  exact ⟨rfl,HF.out⟩
 ·go_simp
  refine hK.out _ _ ⟨c2',trivial⟩ (fun hHeld=>?_)
  clear hK K
  refine wpAnyH_ready (rs:=[11]) (by kernel_rfl) (by simp) ?_
  refine AllReadyH.cons rfl (fun K hK=>?_) AllReadyH.nil
  go_simp
  refine hK.out _ _ ⟨c2',trivial⟩ (fun hHeld=>?_)
  clear hK K
  refine wpAnyH_ready (rs:=[14]) (by kernel_rfl) (by simp) ?_
  refine AllReadyH.cons rfl (fun K hK=>?_) AllReadyH.nil
  refine zc rfl (.tmp 17) (.tmp 19) rfl rfl (by simp [Act.eval]) (by simp [Act.eval]) hrun2 (hK.out _ _ ⟨d2,trivial⟩ (fun hHeld=>?_))
  simp only [Act.put]
  clear hK K
  refine wpAnyH_take (i:=15) (v:=.pointer (some ⟨p.ob,x,none⟩)) rfl (by kernel_rfl) (by kernel_rfl) (by kernel_rfl) (fun _ _ _ h=>h) (Or.inl ⟨by rfl,fun w9 hSw=>?_⟩) hHeld ?_
  ·(obtain ⟨hs1,-⟩:=hSw;go_simp)
  simp only [Act.put]
  refine wpAnyH_ready (rs:=[16]) (by kernel_rfl) (by simp) ?_
  refine AllReadyH.cons rfl (fun K hK=>?_) AllReadyH.nil
  go_simp
  refine hK.out _ _ ⟨s2,trivial⟩ (fun hHeld=>?_)
  clear hK K
  refine wpAnyH_done (by kernel_rfl) ?_ _
  go_wp2_with fail
  go_end0
  exact ⟨rfl,HF.out⟩
theorem qe5 (W:World) (B fb n tk:Nat) (p:FP) (E:List Bool) (WL:List (List Nat)) (h:FM W B fb p n tk E WL) (hB:B<=W.heap.size) (a b:Nat) (hn:WL.length<100000) :
  Calls Tryz.prog 72 #[.pointer (some ⟨fb,0,none⟩),.int .i64 (a:Int),.int .i64 (b:Int)] W fun e W'=>e=.returned (.int .i64 (WL.length:Int))/\∃ p',p'.eb=p.eb/\FM W' B fb p' n tk E (WL++[[a,b]])/\FV W fb p W' p':=by
 obtain ⟨g,c,W',hrun,d2,f2,hF,hV⟩:=h.fork hB a b hn
 have hob:=z8 h.bod
 have c2:=h.c2
 have s2:=hF.c2
 rw [List.length_append] at s2
 have HF:Hid (∃ p',p'.eb=p.eb/\FM (W'.setCell ⟨fb,2,none⟩ (.slice (some ⟨g,0,none⟩) (WL.length+1) c)) B fb p' n tk E (WL++[[a,b]])/\FV W fb p (W'.setCell ⟨fb,2,none⟩ (.slice (some ⟨g,0,none⟩) (WL.length+1) c)) p'):=⟨⟨p.eb,g,c,p.vs++[(some ⟨W.heap.size,0,none⟩,2)]⟩,rfl,hF,hV⟩
 clear h hF hV
 generalize WL.length=wn at *
 simp only [List.length_singleton] at s2
 go_enter Tryz.func72,Tryz.ntmps72
 go_wp2_with (at_builtin;refine Lib.wpList_append_run _ rfl _ _ _ _ rfl _ _ rfl rfl _ _ hrun ?_)
 go_ret
 exact ⟨by simp,HF.out⟩
structure FQ (W wr:World) (Bf sb:Nat) (ta:Option Addr) (tc:Nat) (seen:List Bool) (todo:List Nat):Prop where
 bel:Below Bf W wr
 tod:wr.ownsRow Bf 3 1 (.slice ta todo.length tc) todo.length (natC todo)
 see:wr.ownsRow Bf 4 1 (.slice (some ⟨sb,0,none⟩) seen.length seen.length) seen.length (booC seen)
theorem FQ.pop {W wr:World} {Bf sb tc x:Nat} {ta:Option Addr} {seen:List Bool} {t:List Nat} (h:FQ W wr Bf sb ta tc seen (t++[x])):∃ g,ta=some ⟨g,0,none⟩/\wr.cell? ⟨g,t.length,none⟩=some (.int .i64 (x:Int))/\FQ W wr Bf sb ta tc seen t:=by
 have hf:=h.tod
 rw [List.length_append,jf] at hf
 obtain ⟨g,rfl⟩:∃ g,ta=some ⟨g,0,none⟩:=by
  obtain ⟨ao,c,e,-,-,h6⟩:=zh hf
  cases e
  rcases h6 with ⟨-,h6,-⟩ | h6
  ·exact absurd h6 (by simp)
  ·exact h6
 refine ⟨g,rfl,?_,h.bel,qj3 hf,h.see⟩
 have:=hf.cellAt t.length (by simp)
 rw [this,List.getElem?_append_right (by rw [js];exact Nat.le_refl _),js,Nat.sub_self]
 rfl
theorem FQ.seeAt {W wr:World} {Bf sb tc x:Nat} {ta:Option Addr} {seen:List Bool} {t:List Nat} (h:FQ W wr Bf sb ta tc seen t) (hx:x<seen.length):wr.cell? ⟨sb,x,none⟩=some (.bool (isF seen x))/\wr.frozen? ⟨sb,x,none⟩=false:=by
 refine ⟨?_,h.see.frozenAt x⟩
 have:=h.see.cellAt x (by omega)
 rw [this]
 unfold booC
 rw [List.getElem?_map,vm hx]
 rfl
theorem FQ.add {W wr:World} {Bf sb tc x m xc:Nat} {ta xa:Option Addr} {seen:List Bool} {t l:List Nat} (h:FQ W wr Bf sb ta tc seen t) (hB:Bf<=wr.heap.size) (hx:Row (wr.setCell ⟨sb,x,none⟩ (.bool true)) 1 xa m xc (natC l)) (hm:m=l.length) (hn:t.length+m<1000000) :
  ∃ va c W',(Builtin.append_ #[26,26] 26 #[.slice ta t.length tc,.slice xa m xc]).run Tryz.prog (wr.setCell ⟨sb,x,none⟩ (.bool true))=.ok (.slice va (t.length+m) c) W'/\FQ W W' Bf sb va c (seen.set x true) (t++l):=by
 subst hm
 have l4:Loc wr sb 4:=(qw h.see (b:=sb) rfl).2.2
 have s1:(wr.setCell ⟨sb,x,none⟩ (.bool true)).ownsRow Bf 3 1 (.slice ta t.length tc) t.length (natC t):=qh h.tod (fun i hi=>Below.heap_setCell _ _ _ _ (qr (qx h.tod hi) l4 (by decide)))
 have s2:=(h.see.stored x (.bool true)).1
 have hb1:Below Bf W (wr.setCell ⟨sb,x,none⟩ (.bool true)):=h.bel.setCell (p:=⟨sb,x,none⟩) (qw h.see (b:=sb) rfl).1 _
 obtain ⟨va,c,W',hr,ho,hk,hg⟩:=qrg s1 (by simpa [World.setCell] using hB) hx hn
 refine ⟨va,c,W',hr,?_,by rw [List.length_append];exact ho,?_⟩
 ·refine hb1.trans (hk.below (by simpa [World.setCell] using hB) (fun k hk e=>?_))
  have:=(qw s1 e).1
  omega
 ·rw [<-qdd,List.length_set] at *
  refine qh s2 (fun i hi=>by
   cases hi
   exact hk.block sb (qw s2 (b:=sb) rfl).2.1 (fun e=>qr (qw s1 e).2.2 (qw s2 (b:=sb) rfl).2.2 (by decide) rfl))
theorem qp1 {V:World} {Bf sb lc k:Nat} {la:Option Addr} {l:List Nat} {seen:List Bool} {n:Nat} (h:V.ownsRow Bf 3 1 (.slice la l.length lc) l.length (natC l)) (hs:V.ownsRow Bf 4 1 (.slice (some ⟨sb,0,none⟩) n n) n (booC seen)) (hB:Bf<=V.heap.size) (hn:l.length<100000) :
  ∃ g c W',(Builtin.append_ #[26,26] 26 #[.slice la l.length lc,.slice (some ⟨V.heap.size,0,none⟩) 1 1]).run Tryz.prog (V.alloc (.cells #[.int .i64 (k:Int)] 3))=.ok (.slice (some ⟨g,0,none⟩) (l.length+1) c) W'/\W'.ownsRow Bf 3 1 (.slice (some ⟨g,0,none⟩) (l.length+1) c) (l.length+1) (natC (l++[k]))/\W'.ownsRow Bf 4 1 (.slice (some ⟨sb,0,none⟩) n n) n (booC seen)/\Below Bf V W':=by
 obtain ⟨g,c,W',hr,ho,hk,-⟩:=jc (us:=[.int .i64 (k:Int)]) u29 i3 rfl (by decide) (by decide) rfl (fun u hu=>by rw [List.mem_singleton] at hu;subst hu;rfl) h hB hn
 have k0:Kept (fun j=>blk la=some j) V W':=((Kept.refl _ V).alloc _).trans hk (fun k _ e=>zi e)
 refine ⟨g,c,W',hr,by rw [jf];exact ho,?_,k0.below hB (fun j hj e=>by have:=(qw h e).1;omega)⟩
 exact qh hs (fun i hi=>by
  cases hi
  exact k0.block sb (qw hs (b:=sb) rfl).2.1 (fun e=>qr (qw h e).2.2 (qw hs (b:=sb) rfl).2.2 (by decide) rfl))
structure FL (W wr:World) (Bf sb wn tk:Nat) (la:Option Addr) (lc:Nat) (seen:List Bool) (k:Nat):Prop where
 bel:Below Bf W wr
 lst:wr.ownsRow Bf 3 1 (.slice la (upTo (fun x=>isF seen x && decide (x<=tk)) k).length lc) (upTo (fun x=>isF seen x && decide (x<=tk)) k).length (natC (upTo (fun x=>isF seen x && decide (x<=tk)) k))
 see:wr.ownsRow Bf 4 1 (.slice (some ⟨sb,0,none⟩) wn wn) wn (booC seen)
theorem qef (W:World) (B fb n tk Bf:Nat) (p:FP) (E:List Bool) (WL:List (List Nat)) (h:FM W B fb p n tk E WL) (hI:Ins WL) (hlt:∀ k,FK fb p k->k<Bf) (hB:Bf<=W.heap.size) (frm:List Nat) (fa:Option Addr) (fc m:Nat) (hm:frm.length=m) (hf:W.ownsRow Bf 3 1 (.slice fa m fc) m (natC frm)) (hin:∀ x∈frm,x<WL.length) (hwn:WL.length<=50000) (htot:m+tot WL<=900000) (htk:tk<WL.length) :
  Calls Tryz.prog 50 #[.pointer (some ⟨fb,0,none⟩),.slice fa m fc] W fun e W'=>∃ l la lc,e=.returned (.slice la (l:List Nat).length lc)/\IsL (tk+1) (fun t=>∃ a∈frm,Got WL a t) l/\W'.ownsRow Bf 3 1 (.slice la l.length lc) l.length (natC l)/\Below Bf W W':=by
 have HX:Hid (FM W B fb p n tk E WL/\Ins WL/\(∀ k,FK fb p k->k<Bf)/\tk<WL.length/\frm.length+tot WL<=900000):=⟨h,hI,hlt,htk,by rw [hm];exact htot⟩
 have HM:Hid (∀ V:World,Below Bf W V->V.cell? ⟨fb,0,none⟩=some (.int .i64 (tk:Int))/\V.cell? ⟨fb,2,none⟩=some (.slice (some ⟨p.ob,0,none⟩) WL.length p.oc)/\∀ (x:Nat) (l:List Nat),WL[x]?=some l->∃ q:Option Addr × Nat,V.cell? ⟨p.ob,x,none⟩=some (.slice q.1 l.length q.2)/\Row V 1 q.1 l.length q.2 (natC l)/\∀ k,blk q.1=some k->k<Bf):=fun V hV=>by
  have hF:=h.keep (fun k hk=>hV.block k (hlt k hk))
  refine ⟨hF.c0,hF.c2,fun x l hl=>?_⟩
  obtain ⟨q,hq,hc,-⟩:=hF.at hl
  exact ⟨q,hc,Row.of_own (hF.row x q l hq hl),fun k e=>hlt k (.inr (.inr (.inr ⟨x,q,hq,e⟩)))⟩
 have hoc:=z8 h.bod
 have hfc:=z8 hf
 obtain ⟨c0,c2,-⟩:=HM.out W (Below.refl _ _)
 obtain ⟨wn,HW⟩:∃ wn,Hid (WL.length=wn):=⟨_,rfl⟩
 obtain ⟨i0,hi,hz0,hz1,hz2⟩:=info_parts i4
 obtain ⟨w1,hr,ho,hg⟩:=run_make_full (P:=Tryz.prog) W Bf 41 4 i0 _ 1 u51 hi hz0 hz1 .i64 .i64 wn (by rw [hz2];have:=HW.out;omega) (by unfold maxLen;have:=HW.out;omega) hB
 rw [qfn] at ho
 have HQ1:Hid (FQ W w1 Bf W.heap.size fa fc (List.replicate wn false) frm/\Dfs WL frm (List.replicate wn false) frm):=by
  have hb:Below Bf W w1:=(Below.refl Bf W).grown hg hB (fun k hk=>by cases hk)
  refine ⟨⟨hb,?_,by rw [List.length_replicate];exact ho⟩,by rw [<-HW.out];exact Dfs.begin hin⟩
  rw [hm]
  exact qh hf (fun i hi=>((Below.refl W.heap.size W).grown hg (Nat.le_refl _) (fun k hk=>by cases hk)).block i (qw hf (zi hi)).2.1)
 rw [HW.out] at c2 hoc
 have hwn':wn<=50000:=by rw [<-HW.out];exact hwn
 clear hi hz0 hz1 hz2 ho hg h hI hlt hf hin hwn htot htk
 go_enter Tryz.func50,Tryz.ntmps50
 go_upto_block 0 with fail
 clear hr c0 c2
 generalize W.heap.size=sb at HQ1 ⊢
 go_cut [1] (fun s1 wd=>Hid (∃ ta tc seen,FQ W wd Bf sb ta tc seen []/\Dfs WL frm seen []))
 case first =>
  go_wp2_with fail
  go_loopg [1] (m+tot WL) (fun kx s1 wr=>∃ ta tc tl,s1=.slice ta tl tc/\tl<=tc/\tc<=9223372036854775807/\Hid (∃ seen todo,(todo:List Nat).length=tl/\FQ W wr Bf sb ta tc seen todo/\Dfs WL frm seen todo/\tl+un WL seen<=kx))
  case atStart =>
   refine ⟨fa,fc,m,rfl,hfc.1,hfc.2,(⟨_,frm,hm,HQ1.out.1,HQ1.out.2,?_⟩:∃ seen todo,(todo:List Nat).length=m/\FQ W w1 Bf sb fa fc seen todo/\Dfs WL frm seen todo/\m+un WL seen<=m+tot WL)⟩
   have:=HQ1.out.2.siz
   omega
  case round =>
   clear HQ1 hfc hm
   obtain ⟨ta,tc,tl,rfl,hl1,hl2,J⟩:=hrel
   by_cases h0:tl=0
   ·subst h0
    have HF:Hid (∃ ta tc seen,FQ W wr Bf sb ta tc seen []/\Dfs WL frm seen []):=by
     obtain ⟨seen,todo,h1,h2,h3,-⟩:=J.out
     have:todo=[]:=List.length_eq_zero_iff.1 h1
     subst this
     exact ⟨ta,tc,seen,h2,h3⟩
    clear J
    go_wp2_with fail
    go_meet
    exact HF
   ·obtain ⟨seen,todo,h1,h2,h3,h4⟩:=J.out
    obtain ⟨t,x,rfl⟩:=qh3 todo (fun e=>h0 (by rw [<-h1,e];rfl))
    obtain ⟨g,rfl,cx,hq⟩:=h2.pop
    have hxw:x<WL.length:=h3.ins x (by simp)
    have hsl:seen.length=wn:=by rw [h3.len];exact HW.out
    obtain ⟨cs,fs⟩:=hq.seeAt (x:=x) (by rw [h3.len];exact hxw)
    have htl:t.length+1=tl:=by rw [<-h1];simp
    have hxi:(x:Int)<(wn:Int):=by have:=HW.out;omega
    have hB1:Bf<=wr.heap.size:=Nat.le_trans hB hq.bel.size
    cases hf:isF seen x
    ·obtain ⟨l,hl⟩:∃ l,WL[x]?=some l:=⟨WL[x],List.getElem?_eq_getElem _⟩
     obtain ⟨hD,hless⟩:=h3.take HX.out.2.1 hf hl
     have hV:Below Bf W (wr.setCell ⟨sb,x,none⟩ (.bool true)):=hq.bel.setCell (p:=⟨sb,x,none⟩) (qw hq.see (b:=sb) rfl).1 _
     obtain ⟨-,v2,v3⟩:=HM.out _ hV
     obtain ⟨q,v4,hrow,-⟩:=v3 x l hl
     have hsz:=hD.siz
     have hql:=ze hrow
     rw [List.length_append] at hsz
     obtain ⟨va,c,W',hrun,hq2⟩:=hq.add hB1 hrow rfl (by have:=HX.out.2.2.2.2;omega)
     have hle:=z8 hq2.tod
     rw [List.length_append] at hle
     rw [hf] at cs
     rw [HW.out] at v2
     have HF:Hid (∃ seen todo,(todo:List Nat).length=t.length+l.length/\FQ W W' Bf sb va c seen todo/\Dfs WL frm seen todo/\t.length+l.length+un WL seen<=gk - 1):=by
      refine ⟨_,_,by rw [List.length_append],hq2,hD,?_⟩
      simp only [List.length_append,List.length_singleton] at hless
      omega
     have hgk:1<=gk:=by omega
     obtain ⟨qa,qc⟩:=q
     simp only at hrun v4 hql
     clear hq2 hD h2 h3 hq hrow h4 J h1 hV v3 hsl hl hless hsz hf
     generalize l.length=lm at *
     generalize t.length=tm at *
     subst htl
     have m1:(0:Int)<(tm:Int)+1:=by omega
     go_wp2_with (at_builtin;refine Lib.wpList_append_run _ rfl _ _ _ _ rfl _ _ rfl rfl _ _ hrun ?_)
     go_roundg (gk - 1)
     case measure=>omega
     case rel=>exact ⟨va,c,tm+lm,by simp,hle.1,hle.2,HF⟩
    ·obtain ⟨hD,hless⟩:=h3.pass hf
     rw [hf] at cs
     have hle:=z8 hq.tod
     have HF:Hid (∃ seen todo,(todo:List Nat).length=t.length/\FQ W wr Bf sb (some ⟨g,0,none⟩) tc seen todo/\Dfs WL frm seen todo/\t.length+un WL seen<=gk - 1):=by
      refine ⟨_,_,rfl,hq,hD,?_⟩
      simp only [List.length_append,List.length_singleton] at hless
      omega
     have hgk:1<=gk:=by omega
     clear hD h2 h3 hq h4 J h1 hsl hless hf
     generalize t.length=tm at *
     subst htl
     have m1:(0:Int)<(tm:Int)+1:=by omega
     go_wp2_with fail
     go_roundg (gk - 1)
     case measure=>omega
     case rel=>exact ⟨some ⟨g,0,none⟩,tc,tm,by simp,hle.1,hle.2,HF⟩
 case rest =>
  obtain ⟨w8,hw8⟩:∃ w8,w8=wc:=⟨_,rfl⟩
  subst wc
  obtain ⟨ta,tc,seen,hq,hD⟩:=hcut.out
  have hsl:seen.length=wn:=by rw [hD.len];exact HW.out
  have HD:Hid (Dfs WL frm seen []/\seen.length=wn):=⟨hD,hsl⟩
  have HL:Hid (FL W w8 Bf sb wn tk none 0 seen 0):=⟨hq.bel,World.ownsRow_nil _ _ _ _,by have:=hq.see;rw [hsl] at this;exact this⟩
  clear hcut hq hD hsl HQ1
  go_wp2_with fail
  go_loopg [49,8] wn (fun kx s49 s8 wr=>∃ (k:Nat) (la:Option Addr) (lc ll:Nat),s49=.int .i64 k/\s8=.slice la ll lc/\k<=wn/\ll<=k/\ll<=lc/\lc<=9223372036854775807/\wn - k<=kx/\Hid (ll=(upTo (fun x=>isF seen x && decide (x<=tk)) k).length/\FL W wr Bf sb wn tk la lc seen k))
  case atStart=>exact ⟨0,none,0,0,rfl,rfl,Nat.zero_le _,Nat.le_refl _,Nat.le_refl _,by omega,by omega,(⟨rfl,HL.out⟩:0=(upTo (fun x=>isF seen x && decide (x<=tk)) 0).length/\FL W w8 Bf sb wn tk none 0 seen 0)⟩
  case round =>
   clear HL
   obtain ⟨k,la,lc,ll,rfl,rfl,hk,hlk,hlc1,hlc2,hg,J⟩:=hrel
   by_cases hlt:k<wn
   ·have hlt':(k:Int)<(wn:Int):=by omega
    obtain ⟨hll,y⟩:=J.out
    obtain ⟨c0,-,-⟩:=HM.out _ y.bel
    have hks:k<seen.length:=by rw [HD.out.2];exact hlt
    have ck:wr.cell? ⟨sb,k,none⟩=some (.bool (isF seen k)):=by
     have:=y.see.cellAt k (by omega)
     rw [this]
     unfold booC
     rw [List.getElem?_map,vm hks]
     rfl
    have hsu:=qnr (fun x=>isF seen x && decide (x<=tk)) k
    by_cases hin:isF seen k=true/\k<=tk
    ·have hcond:(isF seen k && decide (k<=tk))=true:=by rw [hin.1];simp [hin.2]
     rw [if_pos hcond] at hsu
     obtain ⟨g,c,W',hrun,ho,hs,hb⟩:=qp1 (k:=k) y.lst y.see (Nat.le_trans hB y.bel.size) (by rw [<-hll];omega)
     rw [<-hll] at hrun ho
     have HF:Hid (ll+1=(upTo (fun x=>isF seen x && decide (x<=tk)) (k+1)).length/\FL W W' Bf sb wn tk (some ⟨g,0,none⟩) c seen (k+1)):=by
      refine ⟨by rw [hsu,List.length_append,<-hll];rfl,y.bel.trans hb,?_,hs⟩
      rw [hsu,List.length_append,<-hll]
      exact ho
     have hle:=z8 ho
     rw [hin.1] at ck
     have hkt:(k:Int)<=(tk:Int):=by omega
     clear y J hs ho hsu hll hcond hb
     go_wp2_with (at_builtin;refine Lib.wpList_append_run _ rfl _ _ _ _ rfl _ _ rfl rfl _ _ hrun ?_)
     go_roundg (wn - (k+1))
     case measure=>omega
     case rel=>exact ⟨k+1,some ⟨g,0,none⟩,c,ll+1,by simp,by simp,by omega,by omega,hle.1,hle.2,Nat.le_refl _,HF⟩
    ·have hcond:¬ (isF seen k && decide (k<=tk))=true:=by rw [Bool.and_eq_true,decide_eq_true_eq];exact hin
     rw [if_neg hcond] at hsu
     have HF:Hid (ll=(upTo (fun x=>isF seen x && decide (x<=tk)) (k+1)).length/\FL W wr Bf sb wn tk la lc seen (k+1)):=by
      refine ⟨by rw [hsu];exact hll,y.bel,?_,y.see⟩
      rw [hsu]
      exact y.lst
     clear y J hsu hll hcond
     cases hf:isF seen k
     ·rw [hf] at ck
      clear hin hf
      go_wp2_with fail
      go_roundg (wn - (k+1))
      case measure=>omega
      case rel=>exact ⟨k+1,la,lc,ll,by simp,rfl,by omega,by omega,hlc1,hlc2,Nat.le_refl _,HF⟩
     ·rw [hf] at ck
      have hkt:¬ (k:Int)<=(tk:Int):=fun e=>hin ⟨hf,by omega⟩
      clear hin hf
      go_wp2_with fail
      go_roundg (wn - (k+1))
      case measure=>omega
      case rel=>exact ⟨k+1,la,lc,ll,by simp,rfl,by omega,by omega,hlc1,hlc2,Nat.le_refl _,HF⟩
   ·have hkn:k=wn:=by omega
    subst hkn
    have hlt':¬ (k:Int)<(k:Int):=by omega
    obtain ⟨hll,y⟩:=J.out
    have HF:Hid (∃ (l:List Nat) (la':Option Addr) (lc':Nat),Ending.returned (.slice la ll lc)=Ending.returned (.slice la' l.length lc')/\IsL (tk+1) (fun t=>∃ a∈frm,Got WL a t) l/\wr.ownsRow Bf 3 1 (.slice la' l.length lc') l.length (natC l)/\Below Bf W wr):=by
     refine ⟨_,la,lc,by rw [hll],?_,y.lst,y.bel⟩
     have:=HD.out.1.told HX.out.2.2.2.1
     rw [HW.out] at this
     exact this
    clear y J hll
    go_wp2_with fail
    go_ret
    exact HF.out
structure FS (W:World) (B fb:Nat) (p:FP) (n:Nat) (S:Sp) (E:List Bool) (WL:List (List Nat)):Prop where
 fm:FM W B fb p n S.tk E WL
 ways:Ways S n WL
 emp:∀ z,isF E z=true↔Nul S z
 nn:n=S.tk+1+S.nt
 wl:WL.length<=50000
 tt:tot WL<=100000
 wf:WF S
 sy:∀ r∈S.rs,∀ y∈r.r,y<n/\y≠S.tk
theorem FS.below {W W':World} {B fb:Nat} {p:FP} {n:Nat} {S:Sp} {E:List Bool} {WL:List (List Nat)} (h:FS W B fb p n S E WL) (hb:Below W.heap.size W W'):FS W' B fb p n S E WL:=⟨h.fm.below hb,h.ways,h.emp,h.nn,h.wl,h.tt,h.wf,h.sy⟩
def Told (w w':World) (m:Nat) (Q:Nat->Prop) (e:Ending):Prop:=∃ (l:List Nat) (la:Option Addr) (lc:Nat),e=.returned (.slice la l.length lc)/\IsL m Q l/\w'.ownsRow w.heap.size 3 1 (.slice la l.length lc) l.length (natC l)/\Below w.heap.size w w'
theorem Told.congr {w w':World} {m:Nat} {Q R:Nat->Prop} {e:Ending} (h:Told w w' m Q e) (k:∀ t,t<m->(Q t↔R t)):Told w w' m R e:=by
 obtain ⟨l,la,lc,h1,h2,h3⟩:=h
 exact ⟨l,la,lc,h1,h2.congr k,h3⟩
structure OL (W wr:World) (S:Sp) (syms:List Nat) (fa:Option Addr) (fc k:Nat):Prop where
 bel:Below W.heap.size W wr
 own:wr.ownsRow W.heap.size 3 1 (.slice fa k fc) k (natC (syms.take k))
 emp:∀ z∈syms.take k,Nul S z
theorem qck (W:World) (B fb n:Nat) (p:FP) (E:List Bool) (S:Sp) (WL:List (List Nat)) (h:FS W B fb p n S E WL) (syms:List Nat) (sa:Option Addr) (m sc:Nat) (hm:syms.length=m) (hm2:m<=1000) (hrow:Row W 1 sa m sc (natC syms)) (hsy:∀ z∈syms,z<n/\z≠S.tk) (bh:Int) (hbh:bh=-1\/(0<=bh/\bh<=(S.tk:Int))) :
  Calls Tryz.prog 19 #[.pointer (some ⟨fb,0,none⟩),.slice sa m sc,.int .i64 bh] W fun e W'=>Told W W' (S.tk+1) (fun t=>FstL S syms t\/((∀ z∈syms,Nul S z)/\(t:Int)=bh)) e:=by
 have HX:Hid (FS W B fb p n S E WL/\(∀ z∈syms,z<n/\z≠S.tk)/\S.tk<n/\Row W 1 sa m sc (natC syms)):=⟨h,hsy,by rw [h.nn];omega,hrow⟩
 have hbn:n<=1000:=by have:=h.nn;have:=h.wf.tk;have:=h.wf.nt;omega
 have htk:S.tk<n:=by rw [h.nn];omega
 have hsc:=ze hrow
 have HC:Hid (∀ V:World,Below W.heap.size W V->V.cell? ⟨fb,0,none⟩=some (.int .i64 (S.tk:Int))/\V.cell? ⟨fb,1,none⟩=some (.slice (some ⟨p.eb,0,none⟩) n n)/\∀ z,z<n->V.cell? ⟨p.eb,z,none⟩=some (.bool (isF E z))):=fun V hV=>⟨(h.fm.below hV).c0,(h.fm.below hV).c1,fun z hz=>(h.fm.below hV).ce hz⟩
 have HD:Hid (∀ (V:World) (frm:List Nat) (fa:Option Addr) (fc k:Nat),frm.length=k->k<=2000->Below W.heap.size W V->V.ownsRow W.heap.size 3 1 (.slice fa k fc) k (natC frm)->(∀ x∈frm,x<n)->Calls Tryz.prog 50 #[.pointer (some ⟨fb,0,none⟩),.slice fa k fc] V fun e W'=>∃ (l:List Nat) (la:Option Addr) (lc:Nat),e=.returned (.slice la l.length lc)/\IsL (S.tk+1) (fun t=>∃ a∈frm,Got WL a t) l/\W'.ownsRow W.heap.size 3 1 (.slice la l.length lc) l.length (natC l)/\Below W.heap.size V W'):=fun V frm fa fc k hk hk2 hV ho hx =>
  qef V B fb n S.tk W.heap.size p E WL (h.fm.below hV) h.ways.ins (fun k hk=>(h.fm.lt hk).2.1) hV.size frm fa fc k hk ho (fun x hxx=>by have:=hx x hxx;have:=h.ways.len;omega) h.wl (by have:=h.tt;omega) (by have:=h.ways.len;omega)
 have HFL:Hid (∀ (V W':World) (e:Ending) (frm:List Nat),Below W.heap.size W V->(∀ t,t<S.tk+1->((∃ a∈frm,Got WL a t)↔(fun t=>FstL S syms t\/((∀ z∈syms,Nul S z)/\(t:Int)=bh)) t))->(∃ (l:List Nat) (la:Option Addr) (lc:Nat),e=.returned (.slice la l.length lc)/\IsL (S.tk+1) (fun t=>∃ a∈frm,Got WL a t) l/\W'.ownsRow W.heap.size 3 1 (.slice la l.length lc) l.length (natC l)/\Below W.heap.size V W')->Told W W' (S.tk+1) (fun t=>FstL S syms t\/((∀ z∈syms,Nul S z)/\(t:Int)=bh)) e):=fun V W' e frm hV hq ⟨l,la,lc,h1,h2,h3,h4⟩=>⟨l,la,lc,h1,h2.congr hq,h3,hV.trans h4⟩
 have HM:Hid (syms.length=m):=hm
 have HO0:Hid (OL W W S syms none 0 0):=⟨Below.refl _ _,World.ownsRow_nil _ _ _ _,fun z hz=>by cases hz⟩
 clear h hrow hsy hm
 go_enter Tryz.func19,Tryz.ntmps19
 go_upto_block 0 with fail
 go_cut [7] (fun s7 wd=>∃ (fa:Option Addr) (fc:Nat),s7=.slice fa m fc/\m<=fc/\fc<=9223372036854775807/\Hid (OL W wd S syms fa fc m))
 case first =>
  go_wp2_with fail
  go_loopg [14,7] m (fun kx s14 s7 wr=>∃ (k:Nat) (fa:Option Addr) (fc:Nat),s14=.int .i64 k/\s7=.slice fa k fc/\k<=m/\k<=fc/\fc<=9223372036854775807/\m - k<=kx/\Hid (OL W wr S syms fa fc k))
  case atStart=>exact ⟨0,none,0,rfl,rfl,Nat.zero_le _,Nat.le_refl _,by omega,by omega,HO0⟩
  case round =>
   clear HO0
   obtain ⟨k,fa,fc,rfl,rfl,hk,hf1,hf2,hg,J⟩:=hrel
   by_cases hlt:k<m
   ·have hlt':(k:Int)<(m:Int):=by omega
    obtain ⟨y,hy⟩:∃ y,syms[k]?=some y:=⟨syms[k]'(by rw [HM.out];exact hlt),List.getElem?_eq_getElem _⟩
    have hym:=HX.out.2.1 y (List.mem_of_getElem? hy)
    obtain ⟨bx,ox,hxa,cy⟩:=vj (HX.out.2.2.2.below J.out.bel) hy
    subst hxa
    obtain ⟨c0,c1,c3⟩:=HC.out wr J.out.bel
    obtain ⟨g,c,W',hrun,ho,-,hb1⟩:=ql7 J.out.own J.out.bel.size (by omega) y
    have hB1:Below W.heap.size W W':=J.out.bel.trans hb1
    have ht:syms.take (k+1)=syms.take k++[y]:=by rw [List.take_add_one,hy];rfl
    rw [<-ht] at ho
    have HO:Hid (Below W.heap.size W W'/\W'.ownsRow W.heap.size 3 1 (.slice (some ⟨g,0,none⟩) (k+1) c) (k+1) (natC (syms.take (k+1)))):=⟨hB1,ho⟩
    have HK:Hid (syms[k]?=some y/\∀ z∈syms.take k,Nul S z):=⟨hy,J.out.emp⟩
    have hle:=z8 ho
    have HY:Hid (y<n/\y≠S.tk):=hym
    have hd1:decide ((y:Int)≠(S.tk:Int)/\0<=(y:Int)/\(y:Int)<(n:Int))=true:=by
     rw [decide_eq_true_eq];omega
    clear J ho hb1 hB1 ht
    go_wp2_with fail
    refine (qee wr fb S.tk n n (some ⟨p.eb,0,none⟩) c0 c1 (y:Int)).mono ?_
    rintro e w1 ⟨rfl,rfl⟩
    rw [hd1]
    clear hd1 c3
    go_wp2_with (at_builtin;refine Lib.wpList_append_run _ rfl _ _ _ _ rfl _ _ rfl rfl _ _ hrun ?_)
    obtain ⟨e0,e1,e3⟩:=HC.out W' HO.out.1
    refine (qc0 W' fb p.eb n n y (isF E y) e1 HY.out.1 (e3 y HY.out.1)).mono ?_
    rintro e w2 ⟨rfl,rfl⟩
    clear hrun c0 c1 cy e0 e1 e3
    cases hf:isF E y
    ·have HQ:Hid (∀ t,t<S.tk+1->((∃ a∈syms.take (k+1),Got WL a t)↔(fun t=>FstL S syms t\/((∀ z∈syms,Nul S z)/\(t:Int)=bh)) t)):=fun t ht=>by
      have hno:¬ Nul S y:=fun e=>by rw [<-HX.out.1.emp,hf] at e;cases e
      exact qpd HX.out.1.ways HX.out.2.2.1 HX.out.2.1 HK.out.1 HK.out.2 hno (by omega) _
     have HL:Hid ((syms.take (k+1)).length=k+1/\∀ x∈syms.take (k+1),x<n):=⟨by rw [List.length_take,HM.out];omega,fun x hx=>(HX.out.2.1 x (List.mem_of_mem_take hx)).1⟩
     clear hf HK
     go_wp2_with fail
     refine (HD.out w2 _ _ _ (k+1) HL.out.1 (by omega) HO.out.1 HO.out.2 HL.out.2).mono ?_
     rintro e w3 hT
     have HT:Hid (Told W w3 (S.tk+1) (fun t=>FstL S syms t\/((∀ z∈syms,Nul S z)/\(t:Int)=bh)) e):=HFL.out w2 w3 e _ HO.out.1 HQ.out hT
     obtain ⟨l,la,lc,rfl,-⟩:=hT
     go_wp2_with fail
     go_ret
     exact HT.out
    ·have HF:Hid (OL W w2 S syms (some ⟨g,0,none⟩) c (k+1)):=by
      refine ⟨HO.out.1,HO.out.2,fun z hz=>?_⟩
      rw [List.take_add_one,List.mem_append] at hz
      rcases hz with hz | hz
      ·exact HK.out.2 z hz
      ·rw [HK.out.1] at hz
       rw [Option.toList_some,List.mem_singleton] at hz
       subst hz
       exact (HX.out.1.emp z).1 hf
     clear hf HK HO
     go_wp2_with fail
     go_roundg (m - (k+1))
     case measure=>omega
     case rel=>exact ⟨k+1,some ⟨g,0,none⟩,c,by simp,by simp,by omega,hle.1,hle.2,Nat.le_refl _,HF⟩
   ·have hkm:k=m:=by omega
    subst hkm
    have hlt':¬ (k:Int)<(k:Int):=by omega
    go_wp2_with fail
    go_meet
    exact ⟨fa,fc,rfl,hf1,hf2,J⟩
 case rest =>
  obtain ⟨w8,hw8⟩:∃ w8,w8=wc:=⟨_,rfl⟩
  subst wc
  obtain ⟨fa,fc,rfl,hf1,hf2,J⟩:=hcut
  have ht:syms.take m=syms:=List.take_of_length_le (by rw [HM.out];exact Nat.le_refl _)
  have HJ:Hid (Below W.heap.size W w8/\w8.ownsRow W.heap.size 3 1 (.slice fa m fc) m (natC syms)/\∀ z∈syms,Nul S z):=by
   have h1:=J.out.own
   have h2:=J.out.emp
   rw [ht] at h1 h2
   exact ⟨J.out.bel,h1,h2⟩
  clear J HO0 ht
  obtain ⟨c0,c1,c3⟩:=HC.out w8 HJ.out.1
  go_wp2_with fail
  refine (qbp w8 fb n n (some ⟨p.eb,0,none⟩) c1 bh).mono ?_
  rintro e w1 ⟨rfl,rfl⟩
  rcases hbh with rfl | ⟨hb0,hb1⟩
  ·have hd:decide (0<=(-1:Int)/\(-1:Int)<(n:Int))=false:=by
    rw [decide_eq_false_iff_not];omega
   rw [hd]
   have HQ:Hid (∀ t,t<S.tk+1->((∃ a∈syms,Got WL a t)↔(FstL S syms t\/((∀ z∈syms,Nul S z)/\(t:Int)=-1)))):=fun t ht=>by
    rw [ql0 HX.out.1.ways HX.out.2.2.1 HX.out.2.1 HJ.out.2.2 (by omega)]
    exact ⟨.inl,fun h=>h.elim id (fun h=>by have:=h.2;omega)⟩
   clear hd c0 c1 c3
   go_wp2_with fail
   refine (HD.out w1 _ _ _ m HM.out (by omega) HJ.out.1 HJ.out.2.1 (fun x hx=>(HX.out.2.1 x hx).1)).mono ?_
   rintro e w3 hT
   have HT:Hid (Told W w3 (S.tk+1) (fun t=>FstL S syms t\/((∀ z∈syms,Nul S z)/\(t:Int)=-1)) e):=HFL.out w1 w3 e _ HJ.out.1 HQ.out hT
   obtain ⟨l,la,lc,rfl,-⟩:=hT
   go_wp2_with fail
   go_ret
   exact HT.out
  ·obtain ⟨b,rfl⟩:∃ b:Nat,bh=(b:Int):=⟨bh.toNat,by omega⟩
   have hbk:b<=S.tk:=by omega
   have hd:decide (0<=(b:Int)/\(b:Int)<(n:Int))=true:=by
    rw [decide_eq_true_eq];omega
   rw [hd]
   obtain ⟨g,c,W',hrun,ho,-,hb1⟩:=ql7 HJ.out.2.1 HJ.out.1.size (by omega) b
   have HO:Hid (Below W.heap.size W W'/\W'.ownsRow W.heap.size 3 1 (.slice (some ⟨g,0,none⟩) (m+1) c) (m+1) (natC (syms++[b]))):=⟨HJ.out.1.trans hb1,ho⟩
   have HQ:Hid (∀ t,t<S.tk+1->((∃ a∈syms++[b],Got WL a t)↔(FstL S syms t\/((∀ z∈syms,Nul S z)/\(t:Int)=(b:Int))))):=fun t ht=>by
    have h1:=ql0 HX.out.1.ways HX.out.2.2.1 HX.out.2.1 HJ.out.2.2 (t:=t) (by omega)
    have h2:=HX.out.1.ways.got_tok (b:=b) (t:=t) hbk (by omega) HX.out.2.2.1 (fun t hf=>by have:=(qg9 HX.out.1.wf (Nat.le_refl _) hf).1;omega) (fun x t hx hf=>(qg9 HX.out.1.wf (Nat.le_of_lt hx) hf).2)
    rw [<-h1]
    constructor
    ·rintro ⟨a,ha,hg⟩
     rcases List.mem_append.1 ha with ha | ha
     ·exact .inl ⟨a,ha,hg⟩
     ·rw [List.mem_singleton] at ha
      subst ha
      exact .inr ⟨HJ.out.2.2,by rw [h2.1 hg]⟩
    ·rintro (⟨a,ha,hg⟩ | ⟨-,he⟩)
     ·exact ⟨a,List.mem_append_left _ ha,hg⟩
     ·exact ⟨b,by simp,h2.2 (by omega)⟩
   have hle:=z8 ho
   have hd2:decide ((S.tk:Int)<(b:Int)/\(b:Int)<(n:Int))=false:=by
    rw [decide_eq_false_iff_not];omega
   clear hd ho hb1 c3
   go_wp2_with fail
   refine (jt w1 fb S.tk n n (some ⟨p.eb,0,none⟩) c0 c1 (b:Int)).mono ?_
   rintro e w2 ⟨rfl,rfl⟩
   rw [hd2]
   clear hd2 c0 c1
   go_wp2_with (at_builtin;refine Lib.wpList_append_run _ rfl _ _ _ _ rfl _ _ rfl rfl _ _ hrun ?_)
   refine (HD.out W' _ _ _ (m+1) (by rw [List.length_append,HM.out];rfl) (by omega) HO.out.1 HO.out.2 (fun x hx=>by
    rcases List.mem_append.1 hx with hx | hx
    ·exact (HX.out.2.1 x hx).1
    ·rw [List.mem_singleton] at hx;subst hx;omega)).mono ?_
   rintro e w3 hT
   have HT:Hid (Told W w3 (S.tk+1) (fun t=>FstL S syms t\/((∀ z∈syms,Nul S z)/\(t:Int)=(b:Int))) e):=HFL.out W' w3 e _ HO.out.1 HQ.out hT
   obtain ⟨l,la,lc,rfl,-⟩:=hT
   go_wp2_with fail
   go_ret
   exact HT.out
theorem qm5 (F:FuncId) (cap:Array Value) (hE:∀ (args:Array Value) (W:World),(callFunc F args).run Tryz.prog W=.ok (.enter F args) W) (pr:Nat->Bool) (W:World) (l:List Nat) (a:Option Addr) (n c:Nat) (hl:l.length=n) (h:Row W 1 a n c (natC l)) (hn:n<=1000) (hP:∀ V,Below W.heap.size W V->∀ z∈l,Calls Tryz.prog F (#[.int .i64 (z:Int)]++cap) V fun e V'=>e=.returned (.bool (pr z))/\Below V.heap.size V V') :
  Calls Tryz.prog 77 #[.slice a n c,.func (.func F) #[] cap] W fun e W'=>Below W.heap.size W W'/\((e=.returned (.int .i64 (-1))/\∀ z∈l,pr z=false)\/∃ i:Nat,e=.returned (.int .i64 (i:Int))/\i<n/\∃ z∈l,pr z=true):=by
 have HP:Hid (∀ V,Below W.heap.size W V->∀ z∈l,Calls Tryz.prog F (#[.int .i64 (z:Int)]++cap) V fun e V'=>e=.returned (.bool (pr z))/\Below V.heap.size V V'):=hP
 have HO:Hid (Row W 1 a n c (natC l)):=h
 have HL:Hid (l.length=n):=hl
 have hc:=ze h
 clear h hP hl
 go_enter Tryz.func77,Tryz.ntmps77
 go_wp2_with fail
 go_loopg [8] n (fun kx s8 wr=>∃ i:Nat,s8=.int .i64 i/\i<=n/\n - i<=kx/\Hid (Below W.heap.size W wr/\∀ z∈l.take i,pr z=false))
 case atStart=>exact ⟨0,rfl,Nat.zero_le _,by omega,(⟨Below.refl _ _,fun q hq=>by cases hq⟩:Below W.heap.size W W/\∀ z∈l.take 0,pr z=false)⟩
 case round =>
  obtain ⟨i,rfl,hi,hg,J⟩:=hrel
  by_cases hlt:i<n
  ·have hlt':(i:Int)<(n:Int):=by omega
   obtain ⟨z,hz⟩:∃ z,l[i]?=some z:=⟨l[i]'(by rw [HL.out];exact hlt),List.getElem?_eq_getElem _⟩
   obtain ⟨b,o,rfl,d0⟩:=vj (HO.out.below J.out.1) hz
   have HC:Hid (Calls Tryz.prog F (#[.int .i64 (z:Int)]++cap) wr fun e V'=>e=.returned (.bool (pr z))/\Below wr.heap.size wr V'):=HP.out wr J.out.1 z (List.mem_of_getElem? hz)
   have HQ:Hid (l[i]?=some z):=hz
   clear hz
   go_wp2_with fail
   refine HC.out.mono ?_
   rintro e V ⟨rfl,hb⟩
   clear d0 HC
   cases hp:pr z
   ·have HF:Hid (Below W.heap.size W V/\∀ z∈l.take (i+1),pr z=false):=by
     refine ⟨qd J.out.1 hb,fun y hy=>?_⟩
     rw [List.take_add_one,List.mem_append] at hy
     rcases hy with hy | hy
     ·exact J.out.2 y hy
     ·rw [HQ.out] at hy
      rw [Option.toList_some,List.mem_singleton] at hy
      subst hy
      exact hp
    clear J hp hb
    go_wp2_with fail
    go_roundg (n - (i+1))
    case measure=>omega
    case rel=>exact ⟨i+1,by simp,by omega,Nat.le_refl _,HF⟩
   ·have HF:Hid (Below W.heap.size W V/\∃ z∈l,pr z=true):=⟨qd J.out.1 hb,z,List.mem_of_getElem? HQ.out,hp⟩
    clear J hp hb
    go_wp2_with fail
    go_ret
    exact ⟨HF.out.1,.inr ⟨i,rfl,hlt,HF.out.2⟩⟩
  ·have hlt':¬ (i:Int)<(n:Int):=by omega
   have HF:Hid (Below W.heap.size W wr/\∀ z∈l,pr z=false):=by
    have:i=n:=by omega
    subst this
    have h2:=J.out.2
    rw [List.take_of_length_le (by rw [HL.out];exact Nat.le_refl _)] at h2
    exact ⟨J.out.1,h2⟩
   clear J
   go_wp2_with fail
   go_ret
   exact ⟨HF.out.1,.inl ⟨rfl,HF.out.2⟩⟩
theorem qdu (F:FuncId) (cap:Array Value) (hE:∀ (args:Array Value) (W:World),(callFunc F args).run Tryz.prog W=.ok (.enter F args) W) (pr:Nat->Bool) (W:World) (l:List Nat) (a:Option Addr) (n c:Nat) (hl:l.length=n) (h:Row W 1 a n c (natC l)) (hn:n<=1000) (hP:∀ V,Below W.heap.size W V->∀ z∈l,Calls Tryz.prog F (#[.int .i64 (z:Int)]++cap) V fun e V'=>e=.returned (.bool (pr z))/\Below V.heap.size V V') :
  Calls Tryz.prog 59 #[.slice a n c,.func (.func F) #[] cap] W fun e W'=>e=.returned (.bool (l.any pr))/\Below W.heap.size W W':=by
 have HC:Hid (Calls Tryz.prog 77 #[.slice a n c,.func (.func F) #[] cap] W fun e W'=>Below W.heap.size W W'/\((e=.returned (.int .i64 (-1))/\∀ z∈l,pr z=false)\/∃ i:Nat,e=.returned (.int .i64 (i:Int))/\i<n/\∃ z∈l,pr z=true)):=qm5 F cap hE pr W l a n c hl h hn hP
 clear h hP hE hl
 go_enter Tryz.func59,Tryz.ntmps59
 go_wp2_with fail
 refine HC.out.mono ?_
 rintro e V ⟨hb,⟨rfl,hno⟩ | ⟨i,rfl,hi,hyes⟩⟩
 ·have hv:l.any pr=false:=by
   rw [List.any_eq_false]
   exact fun z hz=>by rw [hno z hz];simp
  have HV:Hid (Ending.returned (.bool false)=Ending.returned (.bool (l.any pr))/\Below W.heap.size W V):=⟨by rw [hv],hb⟩
  clear hno hv
  go_wp2_with fail
  refine bodyPost_ret (results_tmp rfl _ _ _) rfl ?_
  exact HV.out
 ·have hv:l.any pr=true:=by
   rw [List.any_eq_true]
   exact hyes
  have HV:Hid (Ending.returned (.bool true)=Ending.returned (.bool (l.any pr))/\Below W.heap.size W V):=⟨by rw [hv],hb⟩
  clear hyes hv
  have hi0:(0:Int)<=(i:Int):=by omega
  go_wp2_with fail
  refine bodyPost_ret (results_tmp rfl _ _ _) rfl ?_
  exact HV.out
theorem qp2 (args:Array Value) (w:World):(callFunc 58 args).run Tryz.prog w=.ok (.enter 58 args) w:=v8 Tryz.func58 (by kernel_rfl) (by kernel_rfl) args w
theorem qp3 (args:Array Value) (w:World):(callFunc 60 args).run Tryz.prog w=.ok (.enter 60 args) w:=v8 Tryz.func60 (by kernel_rfl) (by kernel_rfl) args w
theorem qp4 (args:Array Value) (w:World):(callFunc 41 args).run Tryz.prog w=.ok (.enter 41 args) w:=v8 Tryz.func41 (by kernel_rfl) (by kernel_rfl) args w
theorem qp5 (args:Array Value) (w:World):(callFunc 63 args).run Tryz.prog w=.ok (.enter 63 args) w:=v8 Tryz.func63 (by kernel_rfl) (by kernel_rfl) args w
theorem qoi (W:World) (sb tk z:Nat) (c0:W.cell? ⟨sb,0,none⟩=some (.int .i64 (tk:Int))) :
  Calls Tryz.prog 60 #[.int .i64 (z:Int),.pointer (some ⟨sb,0,none⟩)] W fun e V=>e=.returned (.bool (decide (z<tk)))/\Below W.heap.size W V:=by
 go_enter Tryz.func60,Tryz.ntmps60
 go_wp2_with fail
 go_ret
 exact ⟨by simp,Below.refl _ _⟩
theorem qoj (W:World) (sb tk:Nat) (q:QR) (c0:W.cell? ⟨sb,0,none⟩=some (.int .i64 (tk:Int))) (h:Row W 1 q.2.1 q.1.r.length q.2.2 (natC q.1.r)) (hn:q.1.r.length<=1000) :
  Calls Tryz.prog 58 #[.agg #[.int .i64 q.1.l,.slice q.2.1 q.1.r.length q.2.2,.int .i64 q.1.lv,.int .i64 q.1.a],.pointer (some ⟨sb,0,none⟩)] W fun e V=>e=.returned (.bool (q.1.r.any (fun z=>decide (z<tk))))/\Below W.heap.size W V:=by
 obtain ⟨⟨rl,rr,rlv,ra⟩,qa,qc⟩:=q
 simp only at h hn ⊢
 have hb:Below W.heap.size W (W.alloc (.cells #[.int .i64 rl,.slice qa rr.length qc,.int .i64 rlv,.int .i64 ra] 47)):=qb _ _
 have HC:Hid (Calls Tryz.prog 59 #[.slice qa rr.length qc,.func (.func 60) #[] #[.pointer (some ⟨sb,0,none⟩)]] (W.alloc (.cells #[.int .i64 rl,.slice qa rr.length qc,.int .i64 rlv,.int .i64 ra] 47)) fun e V=>e=.returned (.bool (rr.any (fun z=>decide (z<tk))))/\Below W.heap.size W V):=by
  refine (qdu 60 #[.pointer (some ⟨sb,0,none⟩)] qp3 (fun z=>decide (z<tk)) _ rr qa rr.length qc rfl (h.below hb) hn (fun V hV z _=>?_)).mono ?_
  ·exact qoi V sb tk z (qj hV (qj hb c0))
  ·rintro e V ⟨rfl,hv⟩
   exact ⟨rfl,qd hb hv⟩
 have hnw:(W.alloc (.cells #[.int .i64 rl,.slice qa rr.length qc,.int .i64 rlv,.int .i64 ra] 47)).heap[W.heap.size]?=some (.cells #[.int .i64 rl,.slice qa rr.length qc,.int .i64 rlv,.int .i64 ra] 47 (0,0)):=heap_alloc_new _ _
 have c1:(W.alloc (.cells #[.int .i64 rl,.slice qa rr.length qc,.int .i64 rlv,.int .i64 ra] 47)).cell? ⟨W.heap.size,1,none⟩=some (.slice qa rr.length qc):=by rw [qe hnw];rfl
 clear h hb hnw c0
 go_enter Tryz.func58,Tryz.ntmps58
 go_upto_region 1 with fail
 generalize W.alloc _=U at HC c1 ⊢
 go_wp2_with fail
 refine HC.out.mono ?_
 rintro e V ⟨rfl,hv⟩
 go_wp2_with fail
 go_ret
 exact ⟨rfl,hv⟩
theorem qok (W:World) (vb fb tk n cap z:Nat) (a:Option Addr) (v0:W.cell? ⟨vb,0,none⟩=some (.pointer (some ⟨fb,0,none⟩))) (c0:W.cell? ⟨fb,0,none⟩=some (.int .i64 (tk:Int))) (c1:W.cell? ⟨fb,1,none⟩=some (.slice a n cap)) :
  Calls Tryz.prog 63 #[.int .i64 (z:Int),.pointer (some ⟨vb,0,none⟩)] W fun e V=>e=.returned (.bool (!decide (z≠tk/\z<n)))/\Below W.heap.size W V:=by
 have hd:decide ((z:Int)≠(tk:Int)/\0<=(z:Int)/\(z:Int)<(n:Int))=decide (z≠tk/\z<n):=by
  apply decide_eq_decide.2
  constructor
  ·rintro ⟨h1,-,h3⟩;exact ⟨by omega,by omega⟩
  ·rintro ⟨h1,h3⟩;exact ⟨by omega,by omega,by omega⟩
 generalize decide (z≠tk/\z<n)=bb at hd ⊢
 go_enter Tryz.func63,Tryz.ntmps63
 go_wp2_with fail
 refine (qee W fb tk n cap a c0 c1 (z:Int)).mono ?_
 rintro e w1 ⟨rfl,rfl⟩
 rw [hd]
 clear hd
 go_wp2_with fail
 go_ret
 exact ⟨rfl,Below.refl _ _⟩
def shR (h:SHd) (g c:Nat):SHd:=⟨h.na,h.nc,h.la,h.lc,h.aa,h.ac,some ⟨g,0,none⟩,c⟩
theorem qbi {qs:List QR} {rs:List SR} (h:qs.map (·.1)=rs) (f:SR->Bool):(qs.filter (fun q=>f q.1)).map (·.1)=rs.filter f:=by
 subst h
 induction qs with
 | nil=>rfl
 | cons q qs ih =>
  rw [List.map_cons,List.filter_cons,List.filter_cons]
  split
  ·rw [List.map_cons,ih]
  ·exact ih
structure EL (w wr:World) (fb n k:Nat) (fd:List Bool):Prop where
 bel:Below w.heap.size w wr
 row:∃ Ed:List Bool,Ed.length=n/\wr.ownsRow w.heap.size 4 1 (.slice (some ⟨fb,0,none⟩) n n) n (booC Ed)/\∀ x,isF Ed x=if x<k then false else isF fd x
theorem EL.put {w wr:World} {fb n k:Nat} {fd:List Bool} (h:EL w wr fb n k fd) (hk:k<n):EL w (wr.setCell ⟨fb,k,none⟩ (.bool false)) fb n (k+1) fd:=by
 obtain ⟨Ed,h1,h2,h3⟩:=h.row
 refine ⟨h.bel.setCell (p:=⟨fb,k,none⟩) (qw h2 (b:=fb) rfl).1 _,Ed.set k false,by rw [List.length_set];exact h1,?_,fun x=>?_⟩
 ·rw [qdd]
  exact (h2.stored k (.bool false)).1
 ·unfold isF
  rw [List.getElem?_set]
  by_cases hx:k=x
  ·subst hx
   rw [if_pos rfl,if_pos (by omega),if_pos (Nat.lt_succ_self k)]
   rfl
  ·rw [if_neg hx]
   have:=h3 x
   unfold isF at this
   rw [this]
   by_cases hxk:x<k
   ·rw [if_pos hxk,if_pos (by omega)]
   ·rw [if_neg hxk,if_neg (by omega)]
theorem qi0 (w:World) (h:SHd) (S:Sp) (n:Nat) (hnn:n=S.tk+1+S.nt) (hwf:WF S) (hsp:IsSp w h S) :
  Calls Tryz.prog 38 #[sv h S] w fun e w'=>∃ eb Ed,e=.returned (.slice (some ⟨eb,0,none⟩) n n)/\Ed.length=n/\w'.ownsRow w.heap.size 4 1 (.slice (some ⟨eb,0,none⟩) n n) n (booC Ed)/\(∀ x,isF Ed x=true↔Nul S x)/\Below w.heap.size w w':=by
 obtain ⟨qs,hqs,hrow,hrr⟩:=qoh hsp.rl
 have hrl:0<S.rs.length:=(List.getElem?_eq_some_iff.1 hwf.hd).1
 have hn1000:S.rs.length<=1000:=by have:=hwf.nr;omega
 have hB0:Below w.heap.size w (w.alloc (.cells (sC h S) 31)):=qb _ _
 have hs0:(w.alloc (.cells (sC h S) 31)).heap[w.heap.size]?=some (.cells (sC h S) 31 (0,0)):=heap_alloc_new _ _
 have HX:Hid (WF S/\IsSp w h S/\n=S.tk+1+S.nt):=⟨hwf,hsp,hnn⟩
 have HQ:Hid (qs.map (·.1)=S.rs/\∀ q∈qs,Row w 1 q.2.1 q.1.r.length q.2.2 (natC q.1.r)/\q.1.r.length<=1000):=⟨hqs,fun q hq=>⟨hrr q hq,by
  have:q.1∈S.rs:=by rw [<-hqs];exact List.mem_map_of_mem hq
  have:=(hwf.rr q.1 this).1
  omega⟩⟩
 have HRW:Hid (Row w 4 h.ra S.rs.length h.rc (srC qs)):=hrow
 have htn:(S.tk:Int)<(n:Int):=by omega
 have hmn:min (S.tk:Int) (n:Int)=(S.tk:Int):=by omega
 have hrc:=ze hrow
 have htk100:S.tk<=100:=hwf.tk
 clear hwf hsp hnn hqs hrow hrr
 unfold sv
 have e1:sC h S=#[.int .i64 (S.tk:Int),.int .i64 (S.nt:Int),.int .i64 (S.st:Int),.int .i64 S.ex,.slice h.na S.nm.length h.nc,.slice h.la S.lv.length h.lc,.slice h.aa S.az.length h.ac,.slice h.ra S.rs.length h.rc]:=rfl
 rw [e1]
 go_enter Tryz.func38,Tryz.ntmps38
 go_upto_region 1 with fail
 rw [<-e1]
 clear e1
 generalize w.alloc (.cells (sC h S) 31)=W0 at hB0 hs0 ⊢
 obtain ⟨b1,HB1⟩:∃ b1,Hid (b1=w.heap.size):=⟨_,rfl⟩
 rw [<-HB1.out] at hs0 ⊢
 obtain ⟨-,-,-,-,-,-,-,c7⟩:=sbox hs0
 have f7:=qi hs0 7
 have HB0:Hid (Below w.heap.size w W0/\W0.heap[b1]?=some (.cells (sC h S) 31 (0,0))):=⟨hB0,hs0⟩
 clear hB0 hs0
 go_wp2_with fail
 refine (qe4 W0 qs h.ra S.rs.length h.rc (HRW.out.below HB0.out.1) hrl hn1000).mono ?_
 rintro e W1 ⟨g,c,rfl,hown,hb1⟩
 clear c7 f7
 have hg0:W0.heap.size<=g:=(qw hown (b:=g) rfl).1
 have HW1:Hid (Below w.heap.size w W1/\W1.heap[b1]?=some (.cells (sC h S) 31 (0,0))/\W1.ownsRow W0.heap.size 47 4 (.slice (some ⟨g,0,none⟩) S.rs.length c) S.rs.length (srC qs)/\b1<g/\w.heap.size<=g):=⟨qd HB0.out.1 hb1,qf hb1 HB0.out.2,hown,by have:=(Array.getElem?_eq_some_iff.1 HB0.out.2).1;omega,by have:=HB0.out.1.size;omega⟩
 clear hown hb1
 go_wp2_with fail
 refine (qh4 58 #[.pointer (some ⟨b1,0,none⟩)] qp2 (fun q=>hasT S.tk q.1) W1 qs W0.heap.size g S.rs.length c HW1.out.2.2.1 hn1000 (fun V hV q hq=>?_)).mono ?_
 ·have h1:V.heap[b1]?=some (.cells (sC h S) 31 (0,0)):=by
   rw [hV.block b1 (Array.getElem?_eq_some_iff.1 HW1.out.2.1).1 (fun e=>by have:=HW1.out.2.2.2.1;omega)]
   exact HW1.out.2.1
  have hbV:Below w.heap.size w V:=HW1.out.1.trans (hV.below HW1.out.1.size (fun k hk e=>by have:=HW1.out.2.2.2.2;omega))
  exact qoj V b1 S.tk q (sbox h1).1 ((HQ.out.2 q hq).1.below hbV) (HQ.out.2 q hq).2
 rintro e W2 ⟨m,rfl,hmle,hown2,hk2⟩
 have hb2:Below w.heap.size w W2:=HW1.out.1.trans (hk2.below HW1.out.1.size (fun k hk e=>by have:=HW1.out.2.2.2.2;omega))
 have hs2:W2.heap[b1]?=some (.cells (sC h S) 31 (0,0)):=by
  rw [hk2.block b1 (Array.getElem?_eq_some_iff.1 HW1.out.2.1).1 (fun e=>by have:=HW1.out.2.2.2.1;omega)]
  exact HW1.out.2.1
 have c7:W2.cell? ⟨b1,7,none⟩=some (.slice h.ra S.rs.length h.rc):=by obtain ⟨-,-,-,-,-,-,-,c7⟩:=sbox hs2;exact c7
 have f7:=qi hs2 7
 have HW2:Hid (Below w.heap.size w (W2.setCell ⟨b1,7,none⟩ (.slice (some ⟨g,0,none⟩) m c))/\(W2.setCell ⟨b1,7,none⟩ (.slice (some ⟨g,0,none⟩) m c)).heap[b1]?=some (.cells (sC (shR h g c) (noT S)) 31 (0,0))/\IsSp (W2.setCell ⟨b1,7,none⟩ (.slice (some ⟨g,0,none⟩) m c)) (shR h g c) (noT S)/\m=(noT S).rs.length):=by
  have hml:m=(noT S).rs.length:=by
   have h1:(srC (qs.filter (fun q=>!hasT S.tk q.1))).length=m * 4:=hown2.1
   rw [jq] at h1
   have h2:(qs.filter (fun q=>!hasT S.tk q.1)).length=(S.rs.filter (fun r=>!hasT S.tk r)).length:=by rw [<-qbi HQ.out.1 (fun r=>!hasT S.tk r),List.length_map]
   have h3:m=(qs.filter (fun q=>!hasT S.tk q.1)).length:=Nat.eq_of_mul_eq_mul_right (by decide:0<4) h1.symm
   rw [h3]
   exact h2
  have hb3:Below w.heap.size w (W2.setCell ⟨b1,7,none⟩ (.slice (some ⟨g,0,none⟩) m c)):=hb2.setCell (p:=⟨b1,7,none⟩) (by show w.heap.size<=b1;rw [HB1.out];exact Nat.le_refl _) _
  refine ⟨hb3,?_,⟨HX.out.2.1.nm.below hb3,HX.out.2.1.lv.below hb3,HX.out.2.1.az.below hb3,qs.filter (fun q=>!hasT S.tk q.1),qbi HQ.out.1 (fun r=>!hasT S.tk r),?_,fun q hq=>?_⟩,hml⟩
  ·rw [setCell_eq_setRow W2 b1 7 _ 31 (0,0) _ hs2,hml]
   exact setRow_heap _ _ _ _ 31 _ hs2
  ·rw [<-hml]
   exact Row.of_own (qh hown2 (fun j hj=>by
    cases hj
    exact Below.heap_setCell _ _ _ _ (fun e=>by have h7:=HW1.out.2.2.2.1;have e:g=b1:=e;omega)))
  ·exact ((HQ.out.2 q (List.mem_filter.1 hq).1).1).below hb3
 have HY:Hid (∀ V:World,Below (W2.setCell ⟨b1,7,none⟩ (.slice (some ⟨g,0,none⟩) m c)).heap.size (W2.setCell ⟨b1,7,none⟩ (.slice (some ⟨g,0,none⟩) m c)) V->Calls Tryz.prog 61 #[.agg (sC (shR h g c) (noT S))] V fun e w'=>BRes V w' n (Der (noT S)) e):=fun V hV=>qb6 V (shR h g c) (noT S) n HX.out.2.2 (qr8 HX.out.1) (HW2.out.2.2.1.below hV)
 clear hk2 hb2 hs2 hown2
 go_upto_region 2 with fail
 clear c7 f7
 generalize W2.setCell ⟨b1,7,none⟩ (.slice (some ⟨g,0,none⟩) m c)=W3 at HW2 HY ⊢
 obtain ⟨c0,c1,c2,c3,c4,c5,c6,c7⟩:=sbox HW2.out.2.1
 have HYD:Hid (Calls Tryz.prog 61 #[.agg #[.int .i64 ((noT S).tk:Int),.int .i64 ((noT S).nt:Int),.int .i64 ((noT S).st:Int),.int .i64 (noT S).ex,.slice (shR h g c).na (noT S).nm.length (shR h g c).nc,.slice (shR h g c).la (noT S).lv.length (shR h g c).lc,.slice (shR h g c).aa (noT S).az.length (shR h g c).ac,.slice (shR h g c).ra (noT S).rs.length (shR h g c).rc]] W3 fun e w'=>BRes W3 w' n (Der (noT S)) e):=HY.out W3 (Below.refl _ _)
 go_wp2_with fail
 refine HYD.out.mono ?_
 rintro e W4 ⟨fb,fd,rfl,hfl,hfo,htl,hb4⟩
 clear c0 c1 c2 c3 c4 c5 c6 c7 HYD
 have hs4:=qf hb4 HW2.out.2.1
 have c0:W4.cell? ⟨b1,0,none⟩=some (.int .i64 (S.tk:Int)):=(sbox hs4).1
 have HE:Hid (EL w W4 fb n 0 fd):=⟨qd HW2.out.1 hb4,fd,hfl,zd hfo HW2.out.1.size,fun x=>by rw [if_neg (Nat.not_lt_zero x)]⟩
 have HT:Hid (ko (Der (noT S)) fd/\fd.length=n):=⟨htl,hfl⟩
 clear hs4 hfl hfo htl hb4 HW2 HY
 go_upto_block 0 with fail
 clear c0
 go_cut [18] (fun s18 wd=>Hid (EL w wd fb n S.tk fd))
 case first =>
  go_wp2_with fail
  go_loopg [18] S.tk (fun kx s18 wr=>∃ k:Nat,s18=.int .i64 k/\k<=S.tk/\S.tk - k<=kx/\Hid (EL w wr fb n k fd))
  case atStart=>exact ⟨0,rfl,Nat.zero_le _,by omega,HE⟩
  case round =>
   clear HE
   obtain ⟨k,rfl,hk,hg,J⟩:=hrel
   by_cases hlt:k<S.tk
   ·have hlt':(k:Int)<(S.tk:Int):=by omega
    have hkn:k<n:=by omega
    have hkn':(k:Int)<(n:Int):=by omega
    obtain ⟨Ed,h1,h2,-⟩:=J.out.row
    obtain ⟨u,cu⟩:∃ u,wr.cell? ⟨fb,k,none⟩=some u:=by
     have hl:=h2.1
     have hl2:k<(booC Ed).length:=by omega
     exact ⟨(booC Ed)[k],by rw [h2.cellAt k (by omega)];exact List.getElem?_eq_getElem hl2⟩
    have fu:=h2.frozenAt k
    have HF:Hid (EL w (wr.setCell ⟨fb,k,none⟩ (.bool false)) fb n (k+1) fd):=J.out.put hkn
    clear J h1 h2
    go_wp2_with fail
    go_roundg (S.tk - (k+1))
    case measure=>omega
    case rel=>exact ⟨k+1,by simp,by omega,Nat.le_refl _,HF⟩
   ·have hlt':¬ (k:Int)<(S.tk:Int):=by omega
    have HF:Hid (EL w wr fb n S.tk fd):=by
     have:k=S.tk:=by omega
     subst this
     exact J.out
    clear J
    go_wp2_with fail
    go_meet
    exact HF
 case rest =>
  obtain ⟨w8,hw8⟩:∃ w8,w8=wc:=⟨_,rfl⟩
  subst wc
  have HF:Hid (∃ Ed,(Ed:List Bool).length=n/\w8.ownsRow w.heap.size 4 1 (.slice (some ⟨fb,0,none⟩) n n) n (booC Ed)/\(∀ x,isF Ed x=true↔Nul S x)/\Below w.heap.size w w8):=by
   obtain ⟨Ed,h1,h2,h3⟩:=hcut.out.row
   refine ⟨Ed,h1,h2,fun x=>?_,hcut.out.bel⟩
   rw [h3 x]
   by_cases hx:x<S.tk
   ·rw [if_pos hx]
    exact ⟨fun e=>(by cases e),fun e=>by have:=(ql1 HX.out.1 e).1;omega⟩
   ·rw [if_neg hx,<-ql6 HX.out.1 (by omega)]
    constructor
    ·intro hf
     exact (HT.out.1 x true (by rw [vm (qjk hf),hf])).1 rfl
    ·intro hd
     have hxn:x<fd.length:=by
      have:=(ql1 HX.out.1 ((ql6 HX.out.1 (by omega)).1 hd)).2
      rw [HT.out.2,HX.out.2.2]
      exact this
     have:=(HT.out.1 x (isF fd x) (vm hxn)).2 hd
     exact this
  clear hcut HE
  go_wp2_with fail
  go_ret
  obtain ⟨Ed,h1⟩:=HF.out
  exact ⟨fb,Ed,rfl,h1⟩
theorem qlf (W:World) (fb tk n cap:Nat) (a:Option Addr) (c0:W.cell? ⟨fb,0,none⟩=some (.int .i64 (tk:Int))) (c1:W.cell? ⟨fb,1,none⟩=some (.slice a n cap)) (q:QR) (h:Row W 1 q.2.1 q.1.r.length q.2.2 (natC q.1.r)) (hn:q.1.r.length<=1000) (hst:∀ y∈q.1.r,y≠tk/\y<n) :
  Calls Tryz.prog 42 #[.pointer (some ⟨fb,0,none⟩),.agg #[.int .i64 q.1.l,.slice q.2.1 q.1.r.length q.2.2,.int .i64 q.1.lv,.int .i64 q.1.a]] W fun e V=>e=.returned (.bool (okL tk n q.1))/\Below W.heap.size W V:=by
 obtain ⟨⟨rl,rr,rlv,ra⟩,qa,qc⟩:=q
 simp only at h hn hst ⊢
 have hb:Below W.heap.size W ((W.alloc (.cells #[.pointer (some ⟨fb,0,none⟩)] 44)).alloc (.cells #[.int .i64 rl,.slice qa rr.length qc,.int .i64 rlv,.int .i64 ra] 47)):=qd (qb _ _) (qb _ _)
 have hs1:(W.alloc (.cells #[.pointer (some ⟨fb,0,none⟩)] 44)).heap.size=W.heap.size+1:=qt _ _
 have hv:((W.alloc (.cells #[.pointer (some ⟨fb,0,none⟩)] 44)).alloc (.cells #[.int .i64 rl,.slice qa rr.length qc,.int .i64 rlv,.int .i64 ra] 47)).heap[W.heap.size]?=some (.cells #[.pointer (some ⟨fb,0,none⟩)] 44 (0,0)):=qf (qb _ _) (heap_alloc_new _ _)
 have hr:((W.alloc (.cells #[.pointer (some ⟨fb,0,none⟩)] 44)).alloc (.cells #[.int .i64 rl,.slice qa rr.length qc,.int .i64 rlv,.int .i64 ra] 47)).heap[W.heap.size+1]?=some (.cells #[.int .i64 rl,.slice qa rr.length qc,.int .i64 rlv,.int .i64 ra] 47 (0,0)):=by
  have:=heap_alloc_new (W.alloc (.cells #[.pointer (some ⟨fb,0,none⟩)] 44)) (.cells #[.int .i64 rl,.slice qa rr.length qc,.int .i64 rlv,.int .i64 ra] 47)
  rw [hs1] at this
  exact this
 have HB:Hid (Below W.heap.size W ((W.alloc (.cells #[.pointer (some ⟨fb,0,none⟩)] 44)).alloc (.cells #[.int .i64 rl,.slice qa rr.length qc,.int .i64 rlv,.int .i64 ra] 47))):=hb
 have HA:Hid (rr.any (fun z=>!decide (z≠tk/\z<n))=false):=by
  show _=false
  rw [List.any_eq_false]
  intro y hy
  have:=hst y hy
  simp [this]
 have e0:=qj hb c0
 have e1:=qj hb c1
 have HC:Hid (Calls Tryz.prog 59 #[.slice qa rr.length qc,.func (.func 63) #[] #[.pointer (some ⟨W.heap.size,0,none⟩)]] ((W.alloc (.cells #[.pointer (some ⟨fb,0,none⟩)] 44)).alloc (.cells #[.int .i64 rl,.slice qa rr.length qc,.int .i64 rlv,.int .i64 ra] 47)) fun e V=>e=.returned (.bool false)/\Below W.heap.size W V):=by
  refine (qdu 63 #[.pointer (some ⟨W.heap.size,0,none⟩)] qp5 (fun z=>!decide (z≠tk/\z<n)) _ rr qa rr.length qc rfl (h.below hb) hn (fun V hV z _=>?_)).mono ?_
  ·exact qok V W.heap.size fb tk n cap z a (by rw [qe (qf hV hv)];rfl) (qj hV e0) (qj hV e1)
  ·rintro e V ⟨rfl,hv⟩
   rw [HA.out]
   exact ⟨rfl,qd hb hv⟩
 have g0:((W.alloc (.cells #[.pointer (some ⟨fb,0,none⟩)] 44)).alloc (.cells #[.int .i64 rl,.slice qa rr.length qc,.int .i64 rlv,.int .i64 ra] 47)).cell? ⟨W.heap.size,0,none⟩=some (.pointer (some ⟨fb,0,none⟩)):=by rw [qe hv];rfl
 have r0:((W.alloc (.cells #[.pointer (some ⟨fb,0,none⟩)] 44)).alloc (.cells #[.int .i64 rl,.slice qa rr.length qc,.int .i64 rlv,.int .i64 ra] 47)).cell? ⟨W.heap.size+1,0,none⟩=some (.int .i64 rl):=by rw [qe hr];rfl
 have r1:((W.alloc (.cells #[.pointer (some ⟨fb,0,none⟩)] 44)).alloc (.cells #[.int .i64 rl,.slice qa rr.length qc,.int .i64 rlv,.int .i64 ra] 47)).cell? ⟨W.heap.size+1,1,none⟩=some (.slice qa rr.length qc):=by rw [qe hr];rfl
 have hok:okL tk n ⟨rl,rr,rlv,ra⟩=decide ((tk:Int)<rl/\rl<(n:Int)):=rfl
 rw [hok]
 clear hok h hst hb hs1 hv hr c0 c1 HA
 cases hd:decide ((tk:Int)<rl/\rl<(n:Int))
 ·go_enter Tryz.func42,Tryz.ntmps42
  go_upto_region 1 with fail
  generalize ((W.alloc (.cells #[.pointer (some ⟨fb,0,none⟩)] 44)).alloc (.cells #[.int .i64 rl,.slice qa rr.length qc,.int .i64 rlv,.int .i64 ra] 47))=U at HC HB e0 e1 g0 r0 r1 ⊢
  go_wp2_with fail
  refine (jt U fb tk n cap a e0 e1 rl).mono ?_
  rintro e w1 ⟨rfl,rfl⟩
  rw [hd]
  clear hd
  go_wp2_with fail
  go_ret
  exact ⟨rfl,HB.out⟩
 ·go_enter Tryz.func42,Tryz.ntmps42
  go_upto_region 1 with fail
  generalize ((W.alloc (.cells #[.pointer (some ⟨fb,0,none⟩)] 44)).alloc (.cells #[.int .i64 rl,.slice qa rr.length qc,.int .i64 rlv,.int .i64 ra] 47))=U at HC HB e0 e1 g0 r0 r1 ⊢
  go_wp2_with fail
  refine (jt U fb tk n cap a e0 e1 rl).mono ?_
  rintro e w1 ⟨rfl,rfl⟩
  rw [hd]
  clear hd
  go_wp2_with fail
  refine HC.out.mono ?_
  rintro e w2 ⟨rfl,hb⟩
  go_wp2_with fail
  go_ret
  exact ⟨rfl,hb⟩
theorem qol (W:World) (vb fb tk n cap:Nat) (a:Option Addr) (v0:W.cell? ⟨vb,0,none⟩=some (.pointer (some ⟨fb,0,none⟩))) (c0:W.cell? ⟨fb,0,none⟩=some (.int .i64 (tk:Int))) (c1:W.cell? ⟨fb,1,none⟩=some (.slice a n cap)) (q:QR) (h:Row W 1 q.2.1 q.1.r.length q.2.2 (natC q.1.r)) (hn:q.1.r.length<=1000) (hst:∀ y∈q.1.r,y≠tk/\y<n) :
  Calls Tryz.prog 41 #[.agg #[.int .i64 q.1.l,.slice q.2.1 q.1.r.length q.2.2,.int .i64 q.1.lv,.int .i64 q.1.a],.pointer (some ⟨vb,0,none⟩)] W fun e V=>e=.returned (.bool (!okL tk n q.1))/\Below W.heap.size W V:=by
 have hb:Below W.heap.size W (W.alloc (.cells #[.int .i64 q.1.l,.slice q.2.1 q.1.r.length q.2.2,.int .i64 q.1.lv,.int .i64 q.1.a] 47)):=qb _ _
 have hr:(W.alloc (.cells #[.int .i64 q.1.l,.slice q.2.1 q.1.r.length q.2.2,.int .i64 q.1.lv,.int .i64 q.1.a] 47)).heap[W.heap.size]?=some (.cells #[.int .i64 q.1.l,.slice q.2.1 q.1.r.length q.2.2,.int .i64 q.1.lv,.int .i64 q.1.a] 47 (0,0)):=heap_alloc_new _ _
 have HC:Hid (Calls Tryz.prog 42 #[.pointer (some ⟨fb,0,none⟩),.agg #[.int .i64 q.1.l,.slice q.2.1 q.1.r.length q.2.2,.int .i64 q.1.lv,.int .i64 q.1.a]] (W.alloc (.cells #[.int .i64 q.1.l,.slice q.2.1 q.1.r.length q.2.2,.int .i64 q.1.lv,.int .i64 q.1.a] 47)) fun e V=>e=.returned (.bool (okL tk n q.1))/\Below W.heap.size W V):=by
  refine (qlf _ fb tk n cap a (qj hb c0) (qj hb c1) q (h.below hb) hn hst).mono ?_
  rintro e V ⟨rfl,hv⟩
  exact ⟨rfl,qd hb hv⟩
 have v0':=qj hb v0
 have d0:(W.alloc (.cells #[.int .i64 q.1.l,.slice q.2.1 q.1.r.length q.2.2,.int .i64 q.1.lv,.int .i64 q.1.a] 47)).cell? ⟨W.heap.size,0,none⟩=some (.int .i64 q.1.l):=by rw [qe hr];rfl
 have d1:(W.alloc (.cells #[.int .i64 q.1.l,.slice q.2.1 q.1.r.length q.2.2,.int .i64 q.1.lv,.int .i64 q.1.a] 47)).cell? ⟨W.heap.size,1,none⟩=some (.slice q.2.1 q.1.r.length q.2.2):=by rw [qe hr];rfl
 have d2:(W.alloc (.cells #[.int .i64 q.1.l,.slice q.2.1 q.1.r.length q.2.2,.int .i64 q.1.lv,.int .i64 q.1.a] 47)).cell? ⟨W.heap.size,2,none⟩=some (.int .i64 q.1.lv):=by rw [qe hr];rfl
 have d3:(W.alloc (.cells #[.int .i64 q.1.l,.slice q.2.1 q.1.r.length q.2.2,.int .i64 q.1.lv,.int .i64 q.1.a] 47)).cell? ⟨W.heap.size,3,none⟩=some (.int .i64 q.1.a):=by rw [qe hr];rfl
 generalize okL tk n q.1=bb at HC ⊢
 clear hb hr h hst c0 c1 v0
 obtain ⟨⟨rl,rr,rlv,ra⟩,qa,qc⟩:=q
 simp only at *
 go_enter Tryz.func41,Tryz.ntmps41
 go_upto_region 1 with fail
 generalize W.alloc (.cells #[.int .i64 rl,.slice qa rr.length qc,.int .i64 rlv,.int .i64 ra] 47)=U at HC v0' d0 d1 d2 d3 ⊢
 go_wp2_with fail
 refine HC.out.mono ?_
 rintro e w2 ⟨rfl,hb⟩
 go_wp2_with fail
 go_ret
 exact ⟨rfl,hb⟩
end Go.Proofs.YtngclmglmhiljaaGreatDoor
