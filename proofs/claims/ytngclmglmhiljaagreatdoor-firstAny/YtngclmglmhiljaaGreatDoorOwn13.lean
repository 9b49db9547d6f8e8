/- Texts that the proofs of the First statements stand on, part Own13. -/
import Derived.Lib.ConvBytes
import Derived.Test.YtngclmglmhiljaaGreatDoorOwn12
set_option maxHeartbeats 16000000
set_option maxRecDepth 100000
namespace Go.Proofs.YtngclmglmhiljaaGreatDoor
open Go.RowKit
theorem RD.setBox {w W:World} {rb:Nat} {h:RHd} {S:St} {qs:List (Ru × Option Addr × Nat)} (r:RD w W rb h S qs) (j:Nat) (u:Value) (S':St) (e1:S'.ws=S.ws) (e2:S'.ts=S.ts) (e3:S'.ls=S.ls) (e4:S'.rs=S.rs) (he:(rdC h S).setIfInBounds j u=rdC h S') (ok:StOk S') :
  RD w (W.setCell ⟨rb,j,none⟩ u) rb h S' qs/\Keep W (W.setCell ⟨rb,j,none⟩ u):=by
 have hl:Loc W rb 139:=⟨_,r.box⟩
 have far:∀ {E k n:Nat} {v:Value} {cs:List Value},W.ownsRow w.heap.size E k v n cs->E≠139->(W.setCell ⟨rb,j,none⟩ u).ownsRow w.heap.size E k v n cs:=by
  intro E k n v cs ho hE
  exact qh ho (fun i hi=>Below.heap_setCell _ _ _ _ (qr (qx ho hi) hl hE))
 refine ⟨⟨?_,?_,?_,?_,?_,fun q hq=>far (r.row q hq) (by decide),r.bel.setCell (p:=⟨rb,j,none⟩) r.new _,r.new,ok⟩,(Keep.refl W).set hl (.inl rfl) _ _⟩
 ·rw [setCell_eq_setRow W rb j _ 139 (0,0) _ r.box,he]
  exact setRow_heap _ _ _ _ 139 _ r.box
 ·rw [e1];exact r.wds
 ·rw [e2,e3];exact far r.tok (by decide)
 ·rw [e4];exact far r.rul (by decide)
 ·rw [e4];exact r.map
theorem qbj (a:Int) (x:Wd) (w W:World) (rb:Nat) (h:RHd) (S:St) (qs:List (Ru × Option Addr × Nat)) (r:RD w W rb h S qs) :
  Calls Tryz.prog 139 #[.pointer (some ⟨rb,0,none⟩),wv x,.int .i64 a] W fun e W'=>Did w W rb qs (kw x a S) e W':=by
 obtain ⟨xk,xt,xa⟩:=x
 obtain ⟨o1,ho1⟩:∃ o:Obj,o=.cells #[.pointer (some ⟨rb,0,none⟩)] 150:=⟨_,rfl⟩
 obtain ⟨o2,ho2⟩:∃ o:Obj,o=.cells #[.int .i64 xk,.string xt,.int .i64 xa] 149:=⟨_,rfl⟩
 obtain ⟨o3,ho3⟩:∃ o:Obj,o=.cells #[.int .i64 a] 3:=⟨_,rfl⟩
 obtain ⟨o4,ho4⟩:∃ o:Obj,o=.cells #[.int .i64 0,.int .i64 0] 125:=⟨_,rfl⟩
 have hB:Below W.heap.size W ((((W.alloc o1).alloc o2).alloc o3).alloc o4):=qd (qd (qd (qb _ _) (qb _ _)) (qb _ _)) (qb _ _)
 have hb0:((((W.alloc o1).alloc o2).alloc o3).alloc o4).heap[W.heap.size]?=some o1:=qf (qd (qd (qb _ _) (qb _ _)) (qb _ _)) (heap_alloc_new _ _)
 have hb1:((((W.alloc o1).alloc o2).alloc o3).alloc o4).heap[W.heap.size+1]?=some o2:=by
  have:=heap_alloc_new (W.alloc o1) o2
  rw [qt] at this
  exact qf (qd (qb _ _) (qb _ _)) this
 have hb2:((((W.alloc o1).alloc o2).alloc o3).alloc o4).heap[W.heap.size+1+1]?=some o3:=by
  have:=heap_alloc_new ((W.alloc o1).alloc o2) o3
  rw [qt,qt] at this
  exact qf (qb _ _) this
 have hb3:((((W.alloc o1).alloc o2).alloc o3).alloc o4).heap[W.heap.size+1+1+1]?=some o4:=by
  have:=heap_alloc_new (((W.alloc o1).alloc o2).alloc o3) o4
  rw [qt,qt,qt] at this
  exact this
 subst ho1 ho2 ho3 ho4
 have HR:Hid (RD w ((((W.alloc (.cells #[.pointer (some ⟨rb,0,none⟩)] 150)).alloc (.cells #[.int .i64 xk,.string xt,.int .i64 xa] 149)).alloc (.cells #[.int .i64 a] 3)).alloc (.cells #[.int .i64 0,.int .i64 0] 125)) rb h S qs):=r.step hB
 have HWW:Hid (w.heap.size<=W.heap.size):=r.bel.size
 clear r
 unfold wv
 simp only
 go_enter Tryz.func139,Tryz.ntmps139
 go_upto_region 1 with fail
 generalize (((W.alloc (.cells #[.pointer (some ⟨rb,0,none⟩)] 150)).alloc (.cells #[.int .i64 xk,.string xt,.int .i64 xa] 149)).alloc (.cells #[.int .i64 a] 3)).alloc (.cells #[.int .i64 0,.int .i64 0] 125)=W1 at hB hb0 hb1 hb2 hb3 HR ⊢
 obtain ⟨nb,hnb⟩:∃ nb,nb=W.heap.size:=⟨_,rfl⟩
 rw [<-hnb] at hb0 hb1 hb2 hb3 ⊢
 have HNB:Hid (W.heap.size<=nb+1+1+1):=by have:=Nat.le_of_eq hnb.symm;show _<=_;omega
 have HK1:Hid (Keep W W1):=qp hB
 have HBX:Hid (W1.heap[nb]?=some (.cells #[.pointer (some ⟨rb,0,none⟩)] 150 (0,0))/\W1.heap[nb+1]?=some (.cells #[.int .i64 xk,.string xt,.int .i64 xa] 149 (0,0))/\W1.heap[nb+1+1]?=some (.cells #[.int .i64 a] 3 (0,0))/\W1.heap[nb+1+1+1]?=some (.cells #[.int .i64 0,.int .i64 0] 125 (0,0))):=⟨hb0,hb1,hb2,hb3⟩
 have s0:W1.cell? ⟨nb,0,none⟩=some (.pointer (some ⟨rb,0,none⟩)):=by rw [qe hb0];rfl
 have s2:W1.cell? ⟨rb,2,none⟩=some (.int .i64 (S.lv:Int)):=by rw [qe HR.out.box];rfl
 have f2:W1.frozen? ⟨rb,2,none⟩=false:=qi HR.out.box 2
 have hlv:=HR.out.ok.lv
 clear hnb hB hb0 hb2
 by_cases h8:S.lv=8
 ·have hq:((S.lv:Int) == 8)=true:=by simp [h8]
  have HF:Hid (kw ⟨xk,xt,xa⟩ a S=.error (zj ⟨xk,xt,xa⟩)):=by
   show _=_
   unfold kw
   rw [if_pos h8]
  obtain ⟨p0,p1,p2⟩:=yy hb1
  clear h8 hb1 hb3 hlv
  generalize (S.lv:Int)=lv at *
  go_wp2_with fail
  refine (jo ⟨xk,xt,xa⟩ _).mono ?_
  rintro e W2 ⟨rfl,hB⟩
  have HB2:Hid (Below W1.heap.size W1 W2):=hB
  clear hB p0 p1 p2 s0 s2 f2
  obtain ⟨q3,q4,z3,z4⟩:=zg (qf HB2.out HBX.out.2.2.2)
  unfold fv zj
  simp only
  go_wp2_with fail
  refine bodyPost_ret (v:=.agg #[.int .i64 1,.int .i64 xa]) (by simp [results,Tryz.results139,go_sem, *]) rfl ?_
  exact zf (HR.out.step HB2.out) (HK1.out.trans (qp HB2.out)) ⟨_,qf HB2.out HBX.out.2.2.2⟩ HNB.out HWW.out (by rw [HF.out];rfl) (fun S1 h=>by rw [HF.out] at h;cases h)
 ·have hq:((S.lv:Int) == 8)=false:=by simp;omega
  have hst:=HR.out.setBox 2 (.int .i64 ((S.lv:Int)+1)) ⟨S.ws,S.ts,S.ls,S.lv+1,S.st,S.ed,S.ex,S.rs⟩ rfl rfl rfl rfl (by unfold rdC;simp) ⟨HR.out.ok.ends,HR.out.ok.nt,HR.out.ok.nl,by simp only;omega,HR.out.ok.nr⟩
  have t0:=hst.2.loc _ _ _ HBX.out.1 (by decide) (by decide) (by decide) (by decide)
  have t2:=hst.2.loc _ _ _ HBX.out.2.2.1 (by decide) (by decide) (by decide) (by decide)
  have HC:Hid (Calls Tryz.prog 137 #[.pointer (some ⟨rb,0,none⟩),.func (.func 158) #[] #[.pointer (some ⟨nb,0,none⟩),.pointer (some ⟨nb+1+1,0,none⟩)]] (W1.setCell ⟨rb,2,none⟩ (.int .i64 ((S.lv:Int)+1))) fun e W'=>Did w (W1.setCell ⟨rb,2,none⟩ (.int .i64 ((S.lv:Int)+1))) rb qs (kw ⟨xk,xt,xa⟩ a S) e W'):=by
   have:=qht a nb (nb+1+1) w _ rb h _ qs hst.1 S.ws.length (Nat.le_refl _) t0 t2
   have e:kw ⟨xk,xt,xa⟩ a S=zt (levP (((S.lv+1:Nat)):Int) a) S.ws.length ⟨S.ws,S.ts,S.ls,S.lv+1,S.st,S.ed,S.ex,S.rs⟩:=by
    unfold kw
    rw [if_neg h8]
    rfl
   rw [e]
   exact this
  have HS:Hid (Keep W1 (W1.setCell ⟨rb,2,none⟩ (.int .i64 ((S.lv:Int)+1)))):=hst.2
  have s0':(W1.setCell ⟨rb,2,none⟩ (.int .i64 ((S.lv:Int)+1))).cell? ⟨nb,0,none⟩=some (.pointer (some ⟨rb,0,none⟩)):=by rw [qe t0];rfl
  have hlv2:(S.lv:Int)<=8/\0<=(S.lv:Int):=by omega
  clear hst t0 t2 h8 hb1 hb3 hlv
  generalize (S.lv:Int)=lv at *
  go_wp2_with fail
  refine HC.out.mono ?_
  intro e W2 hD
  obtain ⟨h3,S3,rfl,hrd3,hkp3,hS3⟩:=hD
  have HD:Hid (RD w W2 rb h3 S3 qs/\Keep W1 W2/\∀ S1,kw ⟨xk,xt,xa⟩ a S=.ok S1->S3=S1):=⟨hrd3,HS.out.trans hkp3,hS3⟩
  clear hrd3 hkp3 hS3 HC s0 s0' s2 f2
  have t3:=HD.out.2.1.loc _ _ _ HBX.out.2.2.2 (by decide) (by decide) (by decide) (by decide)
  obtain ⟨q3,q4,z3,z4⟩:=zg t3
  have HL:Hid (Loc W2 (nb+1+1+1) 125):=⟨_,t3⟩
  obtain ⟨g,hg⟩:∃ g,g=kf (kw ⟨xk,xt,xa⟩ a S):=⟨_,rfl⟩
  have HG:Hid (kf (kw ⟨xk,xt,xa⟩ a S)=g):=hg.symm
  rw [<-hg]
  clear hg t3
  obtain ⟨g1,g2⟩:=g
  unfold fv
  simp only
  go_wp2_with fail
  refine bodyPost_ret (v:=.agg #[.int .i64 g1,.int .i64 g2]) (by simp [results,Tryz.results139,go_sem, *]) rfl ?_
  exact zf HD.out.1 (HK1.out.trans HD.out.2.1) HL.out HNB.out HWW.out HG.out HD.out.2.2
theorem qi6 (x:Wd) (w W:World) (rb:Nat) (h:RHd) (S:St) (qs:List (Ru × Option Addr × Nat)) (r:RD w W rb h S qs) :
  Calls Tryz.prog 140 #[.pointer (some ⟨rb,0,none⟩),wv x] W fun e W'=>Did w W rb qs (vo x S) e W':=by
 obtain ⟨xk,xt,xa⟩:=x
 have hB:Below W.heap.size W ((W.alloc (.cells #[.int .i64 xk,.string xt,.int .i64 xa] 149)).alloc (.cells #[.int .i64 0,.int .i64 0] 125)):=qd (qb _ _) (qb _ _)
 have hb0:((W.alloc (.cells #[.int .i64 xk,.string xt,.int .i64 xa] 149)).alloc (.cells #[.int .i64 0,.int .i64 0] 125)).heap[W.heap.size]?=some (.cells #[.int .i64 xk,.string xt,.int .i64 xa] 149 (0,0)):=qf (qb _ _) (heap_alloc_new _ _)
 have hb1:((W.alloc (.cells #[.int .i64 xk,.string xt,.int .i64 xa] 149)).alloc (.cells #[.int .i64 0,.int .i64 0] 125)).heap[W.heap.size+1]?=some (.cells #[.int .i64 0,.int .i64 0] 125 (0,0)):=by
  have:=heap_alloc_new (W.alloc (.cells #[.int .i64 xk,.string xt,.int .i64 xa] 149)) (.cells #[.int .i64 0,.int .i64 0] 125)
  rwa [qt] at this
 have HR:Hid (RD w ((W.alloc (.cells #[.int .i64 xk,.string xt,.int .i64 xa] 149)).alloc (.cells #[.int .i64 0,.int .i64 0] 125)) rb h S qs):=r.step hB
 have HWW:Hid (w.heap.size<=W.heap.size):=r.bel.size
 clear r
 unfold wv
 simp only
 go_enter Tryz.func140,Tryz.ntmps140
 go_upto_region 1 with fail
 generalize (W.alloc (.cells #[.int .i64 xk,.string xt,.int .i64 xa] 149)).alloc (.cells #[.int .i64 0,.int .i64 0] 125)=W1 at hB hb0 hb1 HR ⊢
 obtain ⟨nb,hnb⟩:∃ nb,nb=W.heap.size:=⟨_,rfl⟩
 rw [<-hnb] at hb0 hb1 ⊢
 have HNB:Hid (W.heap.size<=nb+1):=Nat.le_succ_of_le (Nat.le_of_eq hnb.symm)
 have HK1:Hid (Keep W W1):=qp hB
 have HBX:Hid (W1.heap[nb]?=some (.cells #[.int .i64 xk,.string xt,.int .i64 xa] 149 (0,0))/\W1.heap[nb+1]?=some (.cells #[.int .i64 0,.int .i64 0] 125 (0,0))):=⟨hb0,hb1⟩
 have s3:W1.cell? ⟨rb,3,none⟩=some (.string S.st):=by rw [qe HR.out.box];rfl
 by_cases hst:S.st=⟨#[]⟩
 ·have hq:(S.st.toList == [])=true:=(zo _).2 hst
  have HT:Hid (Calls Tryz.prog 143 #[.pointer (some ⟨rb,0,none⟩),.int .i64 1] W1 fun e W'=>e=.returned (.tuple #[wv (takeW 1 S),fv (jp 1 S)])/\Went w W1 rb (takeS 1 S) qs W'):=jx 1 (by decide) w W1 rb h S qs HR.out
  have HSP:Hid (vo ⟨xk,xt,xa⟩ S=(match kv 1 S with | .error e=>.error e | .ok (w,S1)=>.ok ⟨S1.ws,S1.ts,S1.ls,S1.lv,w.t,S1.ed,S1.ex,S1.rs⟩)):=by
   show _=_
   unfold vo
   rw [if_neg (by simpa using hst)]
   rfl
  clear hb0 hb1 hnb hB hst
  obtain ⟨f,hf⟩:∃ f,f=jp 1 S:=⟨_,rfl⟩
  obtain ⟨y,hy⟩:∃ y,y=takeW 1 S:=⟨_,rfl⟩
  have HFY:Hid (f=jp 1 S/\y=takeW 1 S):=⟨hf,hy⟩
  rw [<-hf,<-hy] at HT
  clear hf hy
  obtain ⟨f1,f2⟩:=f
  obtain ⟨yk,yt,ya⟩:=y
  unfold wv fv at HT
  simp only at HT
  generalize S.st=st at *
  go_wp2_with fail
  refine HT.out.mono ?_
  rintro e W2 ⟨rfl,hwent⟩
  have HW2:Hid (Went w W1 rb (takeS 1 S) qs W2/\Keep W1 W2):=⟨hwent,hwent.keep ⟨_,HR.out.box⟩⟩
  clear hwent HT s3
  obtain ⟨h2,hrd2⟩:=HW2.out.1.rd
  have hb3:Below W2.heap.size W2 ((W2.alloc (.cells #[.int .i64 yk,.string yt,.int .i64 ya] 149)).alloc (.cells #[.int .i64 f1,.int .i64 f2] 125)):=qd (qb _ _) (qb _ _)
  have hrd3:=hrd2.step hb3
  have s3:((W2.alloc (.cells #[.int .i64 yk,.string yt,.int .i64 ya] 149)).alloc (.cells #[.int .i64 f1,.int .i64 f2] 125)).cell? ⟨rb,3,none⟩=some (.string (takeS 1 S).st):=by rw [qe hrd3.box];rfl
  have z5:((W2.alloc (.cells #[.int .i64 yk,.string yt,.int .i64 ya] 149)).alloc (.cells #[.int .i64 f1,.int .i64 f2] 125)).frozen? ⟨rb,3,none⟩=false:=qi hrd3.box 3
  have hst:=hrd3.setBox 3 (.string yt) ⟨(takeS 1 S).ws,(takeS 1 S).ts,(takeS 1 S).ls,(takeS 1 S).lv,yt,(takeS 1 S).ed,(takeS 1 S).ex,(takeS 1 S).rs⟩ rfl rfl rfl rfl (by unfold rdC;simp) ⟨hrd3.ok.ends,hrd3.ok.nt,hrd3.ok.nl,hrd3.ok.lv,hrd3.ok.nr⟩
  have hkk:Keep W1 (((W2.alloc (.cells #[.int .i64 yk,.string yt,.int .i64 ya] 149)).alloc (.cells #[.int .i64 f1,.int .i64 f2] 125)).setCell ⟨rb,3,none⟩ (.string yt)):=(HW2.out.2.trans (qp hb3)).trans hst.2
  have t2:=hkk.loc _ _ _ HBX.out.2 (by decide) (by decide) (by decide) (by decide)
  obtain ⟨q3,q4,z3,z4⟩:=zg t2
  have t5:((W2.alloc (.cells #[.int .i64 yk,.string yt,.int .i64 ya] 149)).alloc (.cells #[.int .i64 f1,.int .i64 f2] 125)).heap[W2.heap.size+1]?=some (.cells #[.int .i64 f1,.int .i64 f2] 125 (0,0)):=by
   have:=heap_alloc_new (W2.alloc (.cells #[.int .i64 yk,.string yt,.int .i64 ya] 149)) (.cells #[.int .i64 f1,.int .i64 f2] 125)
   rwa [qt] at this
  obtain ⟨q5,q6,-,-⟩:=zg (hst.2.loc _ _ _ t5 (by decide) (by decide) (by decide) (by decide))
  have HS:Hid (RD w (((W2.alloc (.cells #[.int .i64 yk,.string yt,.int .i64 ya] 149)).alloc (.cells #[.int .i64 f1,.int .i64 f2] 125)).setCell ⟨rb,3,none⟩ (.string yt)) rb h2 ⟨(takeS 1 S).ws,(takeS 1 S).ts,(takeS 1 S).ls,(takeS 1 S).lv,yt,(takeS 1 S).ed,(takeS 1 S).ex,(takeS 1 S).rs⟩ qs/\Keep W1 (((W2.alloc (.cells #[.int .i64 yk,.string yt,.int .i64 ya] 149)).alloc (.cells #[.int .i64 f1,.int .i64 f2] 125)).setCell ⟨rb,3,none⟩ (.string yt))/\Loc (((W2.alloc (.cells #[.int .i64 yk,.string yt,.int .i64 ya] 149)).alloc (.cells #[.int .i64 f1,.int .i64 f2] 125)).setCell ⟨rb,3,none⟩ (.string yt)) (nb+1) 125):=⟨hst.1,hkk,⟨_,t2⟩⟩
  clear hrd2 hrd3 hst hkk t2 t5 hb3
  generalize (takeS 1 S).st=st2 at s3
  go_wp2_with fail
  refine bodyPost_ret (v:=.agg #[.int .i64 f1,.int .i64 f2]) (by simp [results,Tryz.results140,go_sem, *]) rfl ?_
  refine zf HS.out.1 (HK1.out.trans HS.out.2.1) HS.out.2.2 HNB.out HWW.out ?_ ?_
  ·rw [HSP.out,HFY.out.1]
   rcases ju 1 S with ⟨-,hP,-,-,hF⟩ | ⟨-,hP,hF,-⟩
   ·rw [hP,hF];rfl
   ·rw [hP,hF];rfl
  ·intro S1 hS1
   rw [HSP.out] at hS1
   rcases ju 1 S with ⟨-,hP,hW,hS,-⟩ | ⟨-,hP,-,-⟩
   ·rw [hP] at hS1
    cases hS1
    have e:yt=S.hd.t:=by
     have:=HFY.out.2
     rw [hW] at this
     rw [<-this]
    rw [hS,e]
   ·rw [hP] at hS1
    cases hS1
 ·have hq:(S.st.toList == [])=false:=by
   cases hb:(S.st.toList == [])
   ·rfl
   ·exact absurd ((zo _).1 hb) hst
  have HF:Hid (vo ⟨xk,xt,xa⟩ S=.error (jb ⟨xk,xt,xa⟩)):=by
   show _=_
   unfold vo
   rw [if_pos hst]
  obtain ⟨p0,p1,p2⟩:=yy hb0
  clear hb0 hb1 hnb hB hst
  generalize S.st=st at *
  go_wp2_with fail
  refine (qaz ⟨xk,xt,xa⟩ _).mono ?_
  rintro e W2 ⟨rfl,hB⟩
  have HB2:Hid (Below W1.heap.size W1 W2):=hB
  clear hB p0 p1 p2 s3
  obtain ⟨q3,q4,z3,z4⟩:=zg (qf HB2.out HBX.out.2)
  unfold fv jb
  simp only
  go_wp2_with fail
  refine bodyPost_ret (v:=.agg #[.int .i64 7,.int .i64 xa]) (by simp [results,Tryz.results140,go_sem, *]) rfl ?_
  exact zf (HR.out.step HB2.out) (HK1.out.trans (qp HB2.out)) ⟨_,qf HB2.out HBX.out.2⟩ HNB.out HWW.out (by rw [HF.out];rfl) (fun S1 h=>by rw [HF.out] at h;cases h)
theorem qif {l:List UInt8} {k:Nat} {c:UInt8} (h:l[k]?=some c):numP (l.take (k+1))=numP (l.take k) * 10+((c.toNat:Int) - 48):=by
 unfold numP
 rw [zn h,List.foldl_append]
 rfl
theorem qgx:∀ (k:Nat) (l:List UInt8),(∀ j,j<l.length->isD (bt l j)=true)->k<=l.length->0<=numP (l.take k)/\numP (l.take k)<10 ^ k
 | 0,l,_,_=>by simp [numP]
 | k+1,l,hd,hk=>by
  obtain ⟨h1,h2⟩:=qgx k l hd (by omega)
  have hl:k<l.length:=by omega
  have hc:l[k]?=some l[k]:=List.getElem?_eq_getElem hl
  rw [qif hc]
  have h3:=hd k hl
  unfold isD bt at h3
  rw [hc] at h3
  simp at h3
  rw [Int.pow_succ]
  omega
theorem qlm (w:World) (s:ByteArray):Below w.heap.size w (Lib.bytesWorld w 5 s) :=
 ⟨rfl,rfl,rfl,by rw [Lib.bytesWorld_size];omega,fun k hk=>Lib.bytesWorld_at_old w 5 s k hk⟩
theorem qi7 (s:ByteArray) (w:World) (h1:1<=s.size) (h4:s.size<=4) (hd:∀ j,j<s.size->isD (bt (by8 s) j)=true) :
  Calls Tryz.prog 170 #[.string s] w fun e w'=>e=.returned (.tuple #[.int .i64 (numP (by8 s)),.nilIface])/\Below w.heap.size w w':=by
 have HD:Hid (∀ j,j<s.size->isD (bt (by8 s) j)=true):=hd
 have hi0:∀ W:World,(Instr.index 9 (.string s) (.int .i64 0)).run Tryz.prog W=.ok (.int .u8 (bt (by8 s) 0)) W:=ku s 0 (by omega)
 have hb0:=hd 0 (by omega)
 clear hd
 unfold isD at hb0
 simp only [Bool.and_eq_true,decide_eq_true_eq] at hb0
 generalize bt (by8 s) 0=b0 at hi0 hb0
 obtain ⟨hb1,hb2⟩:=hb0
 have e1:(b0 == 45)=false:=by simp;omega
 have e2:(b0 == 43)=false:=by simp;omega
 have hcv:(convert 9 56 (.string s)).run Tryz.prog w=.ok (.slice (some ⟨w.heap.size,0,none⟩) s.size (grownCap w s.size 0 5)) (Lib.bytesWorld w 5 s):=Lib.run_convert_string_bytes w 9 56 5 s Tryz.underlying9 Tryz.underlying56 Tryz.underlying5
 have hcell:=Lib.bytesWorld_cell w 5 s
 have HB:Hid (Below w.heap.size w (Lib.bytesWorld w 5 s)):=qlm w s
 have HC:Hid (∀ j,j<s.size->(Lib.bytesWorld w 5 s).cell? ⟨w.heap.size,j,none⟩=some (.int .u8 (bt (by8 s) j))):=fun j hj=>by
  rw [hcell j hj]
  rfl
 clear hcell
 have h1':(0:Int)<(s.size:Int):=by omega
 have h2':(s.size:Int)<19:=by omega
 have h3':¬ (s.size:Int)<1:=by omega
 have h4':(s.size:Int)<10:=by omega
 have HN:Hid (s.size=(by8 s).length):=(qy s).symm
 have HCAP:Hid (s.size<=grownCap w s.size 0 5):=grownCap_ge _ _ _ _
 generalize grownCap w s.size 0 5=cap at hcv HCAP
 go_enter Tryz.func170,Tryz.ntmps170
 go_upto_block 0 with fail
 generalize Lib.bytesWorld w 5 s=w1 at *
 obtain ⟨bb,hbb⟩:∃ bb,bb=w.heap.size:=⟨_,rfl⟩
 rw [<-hbb] at HC ⊢
 clear hbb hcv
 have hcap:s.size<=cap:=HCAP.out
 go_cut [6] (fun s6 wd=>s6=.int .i64 (numP (by8 s))/\wd=w1)
 case first =>
  go_wp2_with fail
  go_loopg [6,8,49] s.size (fun kx s6 s8 s49 wr=>∃ k:Nat,s49=.int .i64 k/\s6=.int .i64 (numP ((by8 s).take k))/\wr=w1/\k<=s.size/\s.size - k<=kx)
  case atStart=>exact ⟨0,rfl,rfl,rfl,Nat.zero_le _,by omega⟩
  case round =>
   obtain ⟨k,rfl,rfl,rfl,hk,hg⟩:=hrel
   by_cases hlt:k<s.size
   ·have hlt':(k:Int)<(s.size:Int):=by omega
    have hcl:=HC.out k hlt
    have hdg:=HD.out k hlt
    unfold isD at hdg
    simp only [Bool.and_eq_true,decide_eq_true_eq] at hdg
    have hlen:k<(by8 s).length:=by rw [<-HN.out];exact hlt
    have hat:(by8 s)[k]?=some (by8 s)[k]:=List.getElem?_eq_getElem hlen
    have hbt:bt (by8 s) k=((((by8 s)[k]).toNat:Nat):Int):=by unfold bt;rw [hat];rfl
    have HNX:Hid (numP ((by8 s).take (k+1))=numP ((by8 s).take k) * 10+(bt (by8 s) k - 48)):=by
     show _=_
     rw [qif hat,hbt]
    have hrg:=qgx k (by8 s) (fun j hj=>HD.out j (by rw [HN.out];exact hj)) (by omega)
    have hpw:(10:Int) ^ k<=1000:=by
     have:k<=3:=by omega
     match k,this with
     | 0,_=>decide
     | 1,_=>decide
     | 2,_=>decide
     | 3,_=>decide
    obtain ⟨d,hd⟩:∃ d:Nat,bt (by8 s) k=48+(d:Int):=⟨(bt (by8 s) k - 48).toNat,by omega⟩
    rw [hd] at hcl hdg HNX
    have hd9:d<=9:=by omega
    have hm:0<=numP ((by8 s).take k)/\numP ((by8 s).take k)<=999:=by omega
    generalize numP ((by8 s).take k)=m at *
    obtain ⟨hm1,hm2⟩:=hm
    clear hat hbt hrg hpw hd hlen hdg
    go_wp2_with fail
    go_roundg (s.size - (k+1))
    case measure=>omega
    case rel=>exact ⟨k+1,by simp,by rw [HNX.out],rfl,by omega,Nat.le_refl _⟩
   ·have hlt':¬ (k:Int)<(s.size:Int):=by omega
    have HF:Hid ((by8 s).take k=by8 s):=List.take_of_length_le (by rw [<-HN.out];omega)
    go_wp2_with fail
    go_meet
    exact ⟨by rw [HF.out],rfl⟩
 case rest =>
  obtain ⟨rfl,hwc⟩:=hcut
  subst wc
  obtain ⟨m,hm⟩:∃ m,m=numP (by8 s):=⟨_,rfl⟩
  have HM:Hid (numP (by8 s)=m):=hm.symm
  rw [<-hm]
  clear hm
  go_wp2_with fail
  refine bodyPost_ret (v:=.tuple #[.int .i64 m,.nilIface]) (by simp [results,Tryz.results170,go_sem]) rfl ?_
  exact ⟨by rw [HM.out],HB.out⟩
theorem qm9 (s:ByteArray) (w:World) (h1:1<=s.size) (h4:s.size<=4) (hd:∀ j,j<s.size->isD (bt (by8 s) j)=true) :
  Calls Tryz.prog 159 #[.string s] w fun e w'=>e=.returned (.tuple #[.int .i64 (numP (by8 s)),.nilIface])/\Below w.heap.size w w':=by
 have H:Hid (Calls Tryz.prog 170 #[.string s] w fun e w'=>e=.returned (.tuple #[.int .i64 (numP (by8 s)),.nilIface])/\Below w.heap.size w w'):=qi7 s w h1 h4 hd
 clear hd h1 h4
 generalize numP (by8 s)=m at *
 go_enter Tryz.func159,Tryz.ntmps159
 go_wp2_with fail
 refine H.out.mono ?_
 rintro e w1 ⟨rfl,hB⟩
 have HB:Hid (Below w.heap.size w w1):=hB
 clear hB
 go_wp2_with fail
 refine bodyPost_ret (v:=.tuple #[.int .i64 m,.nilIface]) (by simp [results,Tryz.results159,go_sem]) rfl ?_
 exact ⟨rfl,HB.out⟩
theorem qhu (x:Wd) (w W:World) (rb:Nat) (h:RHd) (S:St) (qs:List (Ru × Option Addr × Nat)) (r:RD w W rb h S qs) :
  Calls Tryz.prog 141 #[.pointer (some ⟨rb,0,none⟩),wv x] W fun e W'=>Did w W rb qs (jg x S) e W':=by
 obtain ⟨xk,xt,xa⟩:=x
 have hB:Below W.heap.size W ((W.alloc (.cells #[.int .i64 xk,.string xt,.int .i64 xa] 149)).alloc (.cells #[.int .i64 0,.int .i64 0] 125)):=qd (qb _ _) (qb _ _)
 have hb0:((W.alloc (.cells #[.int .i64 xk,.string xt,.int .i64 xa] 149)).alloc (.cells #[.int .i64 0,.int .i64 0] 125)).heap[W.heap.size]?=some (.cells #[.int .i64 xk,.string xt,.int .i64 xa] 149 (0,0)):=qf (qb _ _) (heap_alloc_new _ _)
 have hb1:((W.alloc (.cells #[.int .i64 xk,.string xt,.int .i64 xa] 149)).alloc (.cells #[.int .i64 0,.int .i64 0] 125)).heap[W.heap.size+1]?=some (.cells #[.int .i64 0,.int .i64 0] 125 (0,0)):=by
  have:=heap_alloc_new (W.alloc (.cells #[.int .i64 xk,.string xt,.int .i64 xa] 149)) (.cells #[.int .i64 0,.int .i64 0] 125)
  rwa [qt] at this
 have HR:Hid (RD w ((W.alloc (.cells #[.int .i64 xk,.string xt,.int .i64 xa] 149)).alloc (.cells #[.int .i64 0,.int .i64 0] 125)) rb h S qs):=r.step hB
 have HWW:Hid (w.heap.size<=W.heap.size):=r.bel.size
 clear r
 unfold wv
 simp only
 go_enter Tryz.func141,Tryz.ntmps141
 go_upto_region 1 with fail
 generalize (W.alloc (.cells #[.int .i64 xk,.string xt,.int .i64 xa] 149)).alloc (.cells #[.int .i64 0,.int .i64 0] 125)=W1 at hB hb0 hb1 HR ⊢
 obtain ⟨nb,hnb⟩:∃ nb,nb=W.heap.size:=⟨_,rfl⟩
 rw [<-hnb] at hb0 hb1 ⊢
 have HNB:Hid (W.heap.size<=nb+1):=Nat.le_succ_of_le (Nat.le_of_eq hnb.symm)
 have HK1:Hid (Keep W W1):=qp hB
 have HBX:Hid (W1.heap[nb]?=some (.cells #[.int .i64 xk,.string xt,.int .i64 xa] 149 (0,0))/\W1.heap[nb+1]?=some (.cells #[.int .i64 0,.int .i64 0] 125 (0,0))):=⟨hb0,hb1⟩
 have s4:W1.cell? ⟨rb,4,none⟩=some (.bool S.ed):=by rw [qe HR.out.box];rfl
 cases hed:S.ed
 ·rw [hed] at s4
  have HT:Hid (Calls Tryz.prog 143 #[.pointer (some ⟨rb,0,none⟩),.int .i64 2] W1 fun e W'=>e=.returned (.tuple #[wv (takeW 2 S),fv (jp 2 S)])/\Went w W1 rb (takeS 2 S) qs W'):=jx 2 (by decide) w W1 rb h S qs HR.out
  have HSP:Hid (jg ⟨xk,xt,xa⟩ S=(match kv 2 S with | .error e=>.error e | .ok (w,S1)=>.ok ⟨S1.ws,S1.ts,S1.ls,S1.lv,S1.st,true,numP (by8 w.t),S1.rs⟩)):=by
   show _=_
   unfold jg
   rw [if_neg (by rw [hed];decide)]
   rfl
  clear hb0 hb1 hnb hB hed
  rcases ju 2 S with ⟨hk,hP,hW,hS,hF⟩ | ⟨hk,hP,hF,hS⟩
  ·rw [hW,hS,hF] at HT
   obtain ⟨hwok,-,-,-,-⟩:=qpe HR.out.ok (by decide) hP
   generalize hy:S.hd=y at *
   obtain ⟨yk,yt,ya⟩:=y
   have HF:Hid (jg ⟨xk,xt,xa⟩ S=.ok ⟨S.next.ws,S.next.ts,S.next.ls,S.next.lv,S.next.st,true,numP (by8 yt),S.next.rs⟩):=by
    show _=_
    rw [HSP.out,hP]
   have HNUM:Hid (1<=yt.size/\yt.size<=4/\∀ j,j<yt.size->isD (bt (by8 yt) j)=true):=hwok.num hk
   unfold wv fv at HT
   simp only at HT
   clear hk hP hW hS hF hy hwok HSP
   go_wp2_with fail
   refine HT.out.mono ?_
   rintro e W2 ⟨rfl,hwent⟩
   have HW2:Hid (Went w W1 rb S.next qs W2/\Keep W1 W2):=⟨hwent,hwent.keep ⟨_,HR.out.box⟩⟩
   clear hwent HT s4
   go_wp2_with fail
   refine (qm9 yt _ HNUM.out.1 HNUM.out.2.1 HNUM.out.2.2).mono ?_
   rintro e W3 ⟨rfl,hB⟩
   have HB3:Hid (Below W2.heap.size W2 W3):=qd (qd (qb _ _) (qb _ _)) hB
   clear hB
   obtain ⟨h2,hrd2⟩:=HW2.out.1.rd
   have hrd3:=hrd2.step HB3.out
   have hs5:=hrd3.setBox 5 (.int .i64 (numP (by8 yt))) ⟨S.next.ws,S.next.ts,S.next.ls,S.next.lv,S.next.st,S.next.ed,numP (by8 yt),S.next.rs⟩ rfl rfl rfl rfl (by unfold rdC;simp) ⟨hrd3.ok.ends,hrd3.ok.nt,hrd3.ok.nl,hrd3.ok.lv,hrd3.ok.nr⟩
   have hs4:=hs5.1.setBox 4 (.bool true) ⟨S.next.ws,S.next.ts,S.next.ls,S.next.lv,S.next.st,true,numP (by8 yt),S.next.rs⟩ rfl rfl rfl rfl (by unfold rdC;simp) ⟨hrd3.ok.ends,hrd3.ok.nt,hrd3.ok.nl,hrd3.ok.lv,hrd3.ok.nr⟩
   have c5:W3.cell? ⟨rb,5,none⟩=some (.int .i64 S.next.ex):=by rw [qe hrd3.box];rfl
   have z5:W3.frozen? ⟨rb,5,none⟩=false:=qi hrd3.box 5
   have c4:W3.cell? ⟨rb,4,none⟩=some (.bool S.next.ed):=by rw [qe hrd3.box];rfl
   have z4:W3.frozen? ⟨rb,4,none⟩=false:=qi hrd3.box 4
   have hkk:Keep W1 ((W3.setCell ⟨rb,5,none⟩ (.int .i64 (numP (by8 yt)))).setCell ⟨rb,4,none⟩ (.bool true)):=((HW2.out.2.trans (qp HB3.out)).trans hs5.2).trans hs4.2
   have t2:=hkk.loc _ _ _ HBX.out.2 (by decide) (by decide) (by decide) (by decide)
   obtain ⟨q3,q4,z3,z6⟩:=zg t2
   have HS:Hid (RD w ((W3.setCell ⟨rb,5,none⟩ (.int .i64 (numP (by8 yt)))).setCell ⟨rb,4,none⟩ (.bool true)) rb h2 ⟨S.next.ws,S.next.ts,S.next.ls,S.next.lv,S.next.st,true,numP (by8 yt),S.next.rs⟩ qs/\Keep W1 ((W3.setCell ⟨rb,5,none⟩ (.int .i64 (numP (by8 yt)))).setCell ⟨rb,4,none⟩ (.bool true))/\Loc ((W3.setCell ⟨rb,5,none⟩ (.int .i64 (numP (by8 yt)))).setCell ⟨rb,4,none⟩ (.bool true)) (nb+1) 125):=⟨hs4.1,hkk,⟨_,t2⟩⟩
   clear hrd2 hrd3 hs4 hs5 hkk t2
   generalize S.next.ex=ex0 at c5
   generalize S.next.ed=ed0 at c4
   obtain ⟨m,hm⟩:∃ m,m=numP (by8 yt):=⟨_,rfl⟩
   have HM:Hid (numP (by8 yt)=m):=hm.symm
   rw [<-hm] at HS q3 q4 z3 z6 ⊢
   rw [HM.out] at HF
   clear hm
   go_wp2_with fail
   refine bodyPost_ret (v:=.agg #[.int .i64 0,.int .i64 0]) (by simp [results,Tryz.results141,go_sem, *]) rfl ?_
   exact zf HS.out.1 (HK1.out.trans HS.out.2.1) HS.out.2.2 HNB.out HWW.out (by rw [HF.out];rfl) (fun S1 h=>by rw [HF.out] at h;cases h;rfl)
  ·have HN:Hid (jg ⟨xk,xt,xa⟩ S=.error (zj S.hd)):=by
    show _=_
    rw [HSP.out,hP]
   rw [hF,hS] at HT
   unfold zj at HT HN
   generalize takeW 2 S=y at HT
   generalize S.hd.a=fa at *
   obtain ⟨yk,yt,ya⟩:=y
   unfold wv fv at HT
   simp only at HT
   clear hk hP hF hS HSP
   go_wp2_with fail
   refine HT.out.mono ?_
   rintro e W2 ⟨rfl,hwent⟩
   have HW2:Hid (Went w W1 rb S qs W2/\Keep W1 W2):=⟨hwent,hwent.keep ⟨_,HR.out.box⟩⟩
   clear hwent HT s4
   have hb3:Below W2.heap.size W2 ((W2.alloc (.cells #[.int .i64 yk,.string yt,.int .i64 ya] 149)).alloc (.cells #[.int .i64 1,.int .i64 fa] 125)):=qd (qb _ _) (qb _ _)
   have t2:=qf hb3 (HW2.out.2.loc _ _ _ HBX.out.2 (by decide) (by decide) (by decide) (by decide))
   obtain ⟨q3,q4,z3,z4⟩:=zg t2
   have HL:Hid (Loc ((W2.alloc (.cells #[.int .i64 yk,.string yt,.int .i64 ya] 149)).alloc (.cells #[.int .i64 1,.int .i64 fa] 125)) (nb+1) 125/\Below W2.heap.size W2 ((W2.alloc (.cells #[.int .i64 yk,.string yt,.int .i64 ya] 149)).alloc (.cells #[.int .i64 1,.int .i64 fa] 125))):=⟨⟨_,t2⟩,hb3⟩
   clear t2 hb3
   go_wp2_with fail
   refine bodyPost_ret (v:=.agg #[.int .i64 1,.int .i64 fa]) (by simp [results,Tryz.results141,go_sem, *]) rfl ?_
   obtain ⟨h2,hrd2⟩:=HW2.out.1.rd
   exact zf (hrd2.step HL.out.2) ((HK1.out.trans HW2.out.2).trans (qp HL.out.2)) HL.out.1 HNB.out HWW.out (by rw [HN.out];rfl) (fun S1 h=>by rw [HN.out] at h;cases h)
 ·rw [hed] at s4
  have HF:Hid (jg ⟨xk,xt,xa⟩ S=.error (jb ⟨xk,xt,xa⟩)):=by
   show _=_
   unfold jg
   rw [if_pos hed]
  obtain ⟨p0,p1,p2⟩:=yy hb0
  clear hb0 hb1 hnb hB hed
  go_wp2_with fail
  refine (qaz ⟨xk,xt,xa⟩ _).mono ?_
  rintro e W2 ⟨rfl,hB⟩
  have HB2:Hid (Below W1.heap.size W1 W2):=hB
  clear hB p0 p1 p2 s4
  obtain ⟨q3,q4,z3,z4⟩:=zg (qf HB2.out HBX.out.2)
  unfold fv jb
  simp only
  go_wp2_with fail
  refine bodyPost_ret (v:=.agg #[.int .i64 7,.int .i64 xa]) (by simp [results,Tryz.results141,go_sem, *]) rfl ?_
  exact zf (HR.out.step HB2.out) (HK1.out.trans (qp HB2.out)) ⟨_,qf HB2.out HBX.out.2⟩ HNB.out HWW.out (by rw [HF.out];rfl) (fun S1 h=>by rw [HF.out] at h;cases h)
theorem qmd {t:ByteArray} {S:St} (h:S.hd.t≠t):qaj t S=S:=by unfold qaj;rw [if_neg h]
theorem qki {t:ByteArray} {S:St} (h:S.hd.t=t):qaj t S=S.next:=by unfold qaj;rw [if_pos h]
theorem kq (t:ByteArray) (ht:t≠⟨#[]⟩) (w W:World) (rb:Nat) (h:RHd) (S:St) (qs:List (Ru × Option Addr × Nat)) (r:RD w W rb h S qs) (hn:S.hd.t≠t) :
  Calls Tryz.prog 121 #[.pointer (some ⟨rb,0,none⟩),.string t] W fun e W'=>e=.returned (.bool false)/\(∃ h',RD w W' rb h' S qs)/\Keep W W':=by
 refine (qak t ht w W rb h S qs r false ⟨fun h=>(by cases h),fun h=>absurd h hn⟩).mono ?_
 rintro e W' ⟨rfl,hw⟩
 rw [qmd hn] at hw
 exact ⟨rfl,hw.rd,hw.keep ⟨_,r.box⟩⟩
theorem kk (t:ByteArray) (ht:t≠⟨#[]⟩) (w W:World) (rb:Nat) (h:RHd) (S:St) (qs:List (Ru × Option Addr × Nat)) (r:RD w W rb h S qs) (hn:S.hd.t=t) :
  Calls Tryz.prog 121 #[.pointer (some ⟨rb,0,none⟩),.string t] W fun e W'=>e=.returned (.bool true)/\(∃ h',RD w W' rb h' S.next qs)/\Keep W W':=by
 refine (qak t ht w W rb h S qs r true ⟨fun _=>hn,fun _=>rfl⟩).mono ?_
 rintro e W' ⟨rfl,hw⟩
 rw [qki hn] at hw
 exact ⟨rfl,hw.rd,hw.keep ⟨_,r.box⟩⟩
theorem xu {c:UInt8} {r:List UInt8}:(⟨(c :: r).toArray⟩:ByteArray)≠⟨#[]⟩:=by
 intro e
 have:=congrArg by8 e
 cases this
theorem qkj (w W:World) (rb:Nat) (h:RHd) (S:St) (qs:List (Ru × Option Addr × Nat)) (r:RD w W rb h S qs) :
  Calls Tryz.prog 122 #[.pointer (some ⟨rb,0,none⟩)] W fun e W'=>Did w W rb qs (zm S) e W':=by
 have HR:Hid (RD w (W.alloc (.cells #[.int .i64 0,.int .i64 0] 125)) rb h S qs):=r.step (qb _ _)
 have HWW:Hid (w.heap.size<=W.heap.size):=r.bel.size
 have hb1:(W.alloc (.cells #[.int .i64 0,.int .i64 0] 125)).heap[W.heap.size]?=some (.cells #[.int .i64 0,.int .i64 0] 125 (0,0)):=heap_alloc_new _ _
 have HK1:Hid (Keep W (W.alloc (.cells #[.int .i64 0,.int .i64 0] 125))):=qp (qb _ _)
 have HNL:Hid (S.next.ws.length<=S.ws.length):=by have:=j4 r.ok;show _<=_;omega
 clear r
 go_enter Tryz.func122,Tryz.ntmps122
 go_upto_region 1 with fail
 generalize W.alloc (.cells #[.int .i64 0,.int .i64 0] 125)=W1 at HR hb1 HK1 ⊢
 obtain ⟨nb,hnb⟩:∃ nb,nb=W.heap.size:=⟨_,rfl⟩
 rw [<-hnb] at hb1 ⊢
 have HNB:Hid (W.heap.size<=nb):=Nat.le_of_eq hnb.symm
 have HBX:Hid (W1.heap[nb]?=some (.cells #[.int .i64 0,.int .i64 0] 125 (0,0))):=hb1
 clear hb1 hnb
 have HWD:Hid (Calls Tryz.prog 123 #[.pointer (some ⟨rb,0,none⟩)] W1 fun e W'=>e=.returned (wv S.hd)/\Below W1.heap.size W1 W'):=kp w W1 rb h S qs HR.out
 unfold wv at HWD
 generalize hx:S.hd=x at *
 obtain ⟨xk,xt,xa⟩:=x
 simp only at HWD
 have HX:Hid (S.hd=⟨xk,xt,xa⟩):=hx
 clear hx
 go_wp2_with fail
 refine HWD.out.mono ?_
 rintro e W2 ⟨rfl,hB⟩
 have HB2:Hid (Below W1.heap.size W1 W2):=hB
 clear hB HWD
 go_upto_region 2 with fail
 have hb4:Below W1.heap.size W1 (W2.alloc (.cells #[.int .i64 xk,.string xt,.int .i64 xa] 149)):=qd HB2.out (qb _ _)
 have HV0:Hid ((∃ h',RD w (W2.alloc (.cells #[.int .i64 xk,.string xt,.int .i64 xa] 149)) rb h' S qs)/\Keep W (W2.alloc (.cells #[.int .i64 xk,.string xt,.int .i64 xa] 149))/\(W2.alloc (.cells #[.int .i64 xk,.string xt,.int .i64 xa] 149)).heap[nb]?=some (.cells #[.int .i64 0,.int .i64 0] 125 (0,0))/\(W2.alloc (.cells #[.int .i64 xk,.string xt,.int .i64 xa] 149)).heap[W2.heap.size]?=some (.cells #[.int .i64 xk,.string xt,.int .i64 xa] 149 (0,0))):=⟨⟨h,HR.out.step hb4⟩,HK1.out.trans (qp hb4),qf hb4 HBX.out,heap_alloc_new _ _⟩
 generalize W2.alloc (.cells #[.int .i64 xk,.string xt,.int .i64 xa] 149)=V0 at HV0 ⊢
 obtain ⟨kb,hkb⟩:∃ kb,kb=W2.heap.size:=⟨_,rfl⟩
 rw [<-hkb] at HV0 ⊢
 clear hkb hb4 HB2 HR HK1 HBX
 have HKP:Hid (∀ {V V':World},V.heap[nb]?=some (.cells #[.int .i64 0,.int .i64 0] 125 (0,0))/\V.heap[kb]?=some (.cells #[.int .i64 xk,.string xt,.int .i64 xa] 149 (0,0))->Keep V V'->V'.heap[nb]?=some (.cells #[.int .i64 0,.int .i64 0] 125 (0,0))/\V'.heap[kb]?=some (.cells #[.int .i64 xk,.string xt,.int .i64 xa] 149 (0,0))):=fun hv hk=>⟨hk.loc _ _ _ hv.1 (by decide) (by decide) (by decide) (by decide),hk.loc _ _ _ hv.2 (by decide) (by decide) (by decide) (by decide)⟩
 by_cases hk:xt=tTok
 ·have HP:Hid (zm S=zt ki S.ws.length S.next):=by
   show _=_
   unfold zm
   rw [HX.out]
   simp only
   rw [if_pos hk]
  have hkb:xt=⟨#[37,116,111,107,101,110]⟩:=hk
  have HSK:Hid (Calls Tryz.prog 121 #[.pointer (some ⟨rb,0,none⟩),.string ⟨#[37,116,111,107,101,110]⟩] V0 fun e W'=>e=.returned (.bool true)/\(∃ h',RD w W' rb h' S.next qs)/\Keep V0 W'):=by
   obtain ⟨h',hrd⟩:=HV0.out.1
   exact kk ⟨#[37,116,111,107,101,110]⟩ xu w V0 rb h' S qs hrd (by rw [HX.out];exact hkb)
  clear hk hkb
  go_wp2_with fail
  refine HSK.out.mono ?_
  rintro e Y ⟨rfl,hrdY,hkY⟩
  have HY:Hid ((∃ h',RD w Y rb h' S.next qs)/\Keep W Y/\Y.heap[nb]?=some (.cells #[.int .i64 0,.int .i64 0] 125 (0,0))/\Y.heap[kb]?=some (.cells #[.int .i64 xk,.string xt,.int .i64 xa] 149 (0,0))):=⟨hrdY,HV0.out.2.1.trans hkY,HKP.out HV0.out.2.2 hkY⟩
  clear hrdY hkY HSK
  have HC:Hid (Calls Tryz.prog 137 #[.pointer (some ⟨rb,0,none⟩),.func (.func 138) #[.pointer (some ⟨rb,0,none⟩)] #[]] Y fun e W'=>Did w Y rb qs (zm S) e W'):=by
   obtain ⟨h',hrd⟩:=HY.out.1
   rw [HP.out]
   exact qhs w _ rb h' S.next qs hrd S.ws.length HNL.out
  go_wp2_with fail
  refine HC.out.mono ?_
  intro e V hD
  obtain ⟨h3,S3,rfl,hrd3,hkp3,hS3⟩:=hD
  have hbx:=HKP.out HY.out.2.2 hkp3
  have HD:Hid (RD w V rb h3 S3 qs/\Keep W V/\∀ S1,zm S=.ok S1->S3=S1):=⟨hrd3,HY.out.2.1.trans hkp3,hS3⟩
  obtain ⟨q3,q4,z3,z4⟩:=zg hbx.1
  have HL:Hid (Loc V nb 125):=⟨_,hbx.1⟩
  obtain ⟨g,hg⟩:∃ g,g=kf (zm S):=⟨_,rfl⟩
  have HG:Hid (kf (zm S)=g):=hg.symm
  rw [<-hg]
  clear hrd3 hkp3 hS3 hbx hg HC
  obtain ⟨g1,g2⟩:=g
  unfold fv
  simp only
  go_wp2_with fail
  refine bodyPost_ret (v:=.agg #[.int .i64 g1,.int .i64 g2]) (by simp [results,Tryz.results122,go_sem, *]) rfl ?_
  exact zf HD.out.1 HD.out.2.1 HL.out HNB.out HWW.out HG.out HD.out.2.2
 ·have H0:Hid (¬ xt=tTok):=hk
  have HSK:Hid (Calls Tryz.prog 121 #[.pointer (some ⟨rb,0,none⟩),.string ⟨#[37,116,111,107,101,110]⟩] V0 fun e W'=>e=.returned (.bool false)/\(∃ h',RD w W' rb h' S qs)/\Keep V0 W'):=by
   obtain ⟨h',hrd⟩:=HV0.out.1
   exact kq ⟨#[37,116,111,107,101,110]⟩ xu w V0 rb h' S qs hrd (by rw [HX.out];exact hk)
  clear hk
  go_wp2_with fail
  refine HSK.out.mono ?_
  rintro e V1 ⟨rfl,hrdY,hkY⟩
  have HV1:Hid ((∃ h',RD w V1 rb h' S qs)/\Keep W V1/\V1.heap[nb]?=some (.cells #[.int .i64 0,.int .i64 0] 125 (0,0))/\V1.heap[kb]?=some (.cells #[.int .i64 xk,.string xt,.int .i64 xa] 149 (0,0))):=⟨hrdY,HV0.out.2.1.trans hkY,HKP.out HV0.out.2.2 hkY⟩
  clear hrdY hkY HSK HV0
  by_cases hk:xt=qmm
  ·have HP:Hid (zm S=kw ⟨xk,xt,xa⟩ 1 S.next):=by
    show _=_
    unfold zm
    rw [HX.out]
    simp only
    rw [if_neg H0.out,if_pos hk]
   have hkb:xt=⟨#[37,108,101,102,116]⟩:=hk
   have HSK:Hid (Calls Tryz.prog 121 #[.pointer (some ⟨rb,0,none⟩),.string ⟨#[37,108,101,102,116]⟩] V1 fun e W'=>e=.returned (.bool true)/\(∃ h',RD w W' rb h' S.next qs)/\Keep V1 W'):=by
    obtain ⟨h',hrd⟩:=HV1.out.1
    exact kk ⟨#[37,108,101,102,116]⟩ xu w V1 rb h' S qs hrd (by rw [HX.out];exact hkb)
   clear hk hkb
   go_wp2_with fail
   refine HSK.out.mono ?_
   rintro e Y ⟨rfl,hrdY,hkY⟩
   have HY:Hid ((∃ h',RD w Y rb h' S.next qs)/\Keep W Y/\Y.heap[nb]?=some (.cells #[.int .i64 0,.int .i64 0] 125 (0,0))/\Y.heap[kb]?=some (.cells #[.int .i64 xk,.string xt,.int .i64 xa] 149 (0,0))):=⟨hrdY,HV1.out.2.1.trans hkY,HKP.out HV1.out.2.2 hkY⟩
   clear hrdY hkY HSK
   have HC:Hid (Calls Tryz.prog 139 #[.pointer (some ⟨rb,0,none⟩),.agg #[.int .i64 xk,.string xt,.int .i64 xa],.int .i64 1] Y fun e W'=>Did w Y rb qs (zm S) e W'):=by
    obtain ⟨h',hrd⟩:=HY.out.1
    rw [HP.out]
    exact qbj 1 ⟨xk,xt,xa⟩ w _ rb h' S.next qs hrd
   obtain ⟨p0,p1,p2⟩:=yy HY.out.2.2.2
   go_wp2_with fail
   refine HC.out.mono ?_
   clear p0 p1 p2
   intro e V hD
   obtain ⟨h3,S3,rfl,hrd3,hkp3,hS3⟩:=hD
   have hbx:=HKP.out HY.out.2.2 hkp3
   have HD:Hid (RD w V rb h3 S3 qs/\Keep W V/\∀ S1,zm S=.ok S1->S3=S1):=⟨hrd3,HY.out.2.1.trans hkp3,hS3⟩
   obtain ⟨q3,q4,z3,z4⟩:=zg hbx.1
   have HL:Hid (Loc V nb 125):=⟨_,hbx.1⟩
   obtain ⟨g,hg⟩:∃ g,g=kf (zm S):=⟨_,rfl⟩
   have HG:Hid (kf (zm S)=g):=hg.symm
   rw [<-hg]
   clear hrd3 hkp3 hS3 hbx hg HC
   obtain ⟨g1,g2⟩:=g
   unfold fv
   simp only
   go_wp2_with fail
   refine bodyPost_ret (v:=.agg #[.int .i64 g1,.int .i64 g2]) (by simp [results,Tryz.results122,go_sem, *]) rfl ?_
   exact zf HD.out.1 HD.out.2.1 HL.out HNB.out HWW.out HG.out HD.out.2.2
  ·have H1:Hid (¬ xt=qmm):=hk
   have HSK:Hid (Calls Tryz.prog 121 #[.pointer (some ⟨rb,0,none⟩),.string ⟨#[37,108,101,102,116]⟩] V1 fun e W'=>e=.returned (.bool false)/\(∃ h',RD w W' rb h' S qs)/\Keep V1 W'):=by
    obtain ⟨h',hrd⟩:=HV1.out.1
    exact kq ⟨#[37,108,101,102,116]⟩ xu w V1 rb h' S qs hrd (by rw [HX.out];exact hk)
   clear hk
   go_wp2_with fail
   refine HSK.out.mono ?_
   rintro e V2 ⟨rfl,hrdY,hkY⟩
   have HV2:Hid ((∃ h',RD w V2 rb h' S qs)/\Keep W V2/\V2.heap[nb]?=some (.cells #[.int .i64 0,.int .i64 0] 125 (0,0))/\V2.heap[kb]?=some (.cells #[.int .i64 xk,.string xt,.int .i64 xa] 149 (0,0))):=⟨hrdY,HV1.out.2.1.trans hkY,HKP.out HV1.out.2.2 hkY⟩
   clear hrdY hkY HSK HV1
   by_cases hk:xt=qjp
   ·have HP:Hid (zm S=kw ⟨xk,xt,xa⟩ 2 S.next):=by
     show _=_
     unfold zm
     rw [HX.out]
     simp only
     rw [if_neg H0.out,if_neg H1.out,if_pos hk]
    have hkb:xt=⟨#[37,114,105,103,104,116]⟩:=hk
    have HSK:Hid (Calls Tryz.prog 121 #[.pointer (some ⟨rb,0,none⟩),.string ⟨#[37,114,105,103,104,116]⟩] V2 fun e W'=>e=.returned (.bool true)/\(∃ h',RD w W' rb h' S.next qs)/\Keep V2 W'):=by
     obtain ⟨h',hrd⟩:=HV2.out.1
     exact kk ⟨#[37,114,105,103,104,116]⟩ xu w V2 rb h' S qs hrd (by rw [HX.out];exact hkb)
    clear hk hkb
    go_wp2_with fail
    refine HSK.out.mono ?_
    rintro e Y ⟨rfl,hrdY,hkY⟩
    have HY:Hid ((∃ h',RD w Y rb h' S.next qs)/\Keep W Y/\Y.heap[nb]?=some (.cells #[.int .i64 0,.int .i64 0] 125 (0,0))/\Y.heap[kb]?=some (.cells #[.int .i64 xk,.string xt,.int .i64 xa] 149 (0,0))):=⟨hrdY,HV2.out.2.1.trans hkY,HKP.out HV2.out.2.2 hkY⟩
    clear hrdY hkY HSK
    have HC:Hid (Calls Tryz.prog 139 #[.pointer (some ⟨rb,0,none⟩),.agg #[.int .i64 xk,.string xt,.int .i64 xa],.int .i64 2] Y fun e W'=>Did w Y rb qs (zm S) e W'):=by
     obtain ⟨h',hrd⟩:=HY.out.1
     rw [HP.out]
     exact qbj 2 ⟨xk,xt,xa⟩ w _ rb h' S.next qs hrd
    obtain ⟨p0,p1,p2⟩:=yy HY.out.2.2.2
    go_wp2_with fail
    refine HC.out.mono ?_
    clear p0 p1 p2
    intro e V hD
    obtain ⟨h3,S3,rfl,hrd3,hkp3,hS3⟩:=hD
    have hbx:=HKP.out HY.out.2.2 hkp3
    have HD:Hid (RD w V rb h3 S3 qs/\Keep W V/\∀ S1,zm S=.ok S1->S3=S1):=⟨hrd3,HY.out.2.1.trans hkp3,hS3⟩
    obtain ⟨q3,q4,z3,z4⟩:=zg hbx.1
    have HL:Hid (Loc V nb 125):=⟨_,hbx.1⟩
    obtain ⟨g,hg⟩:∃ g,g=kf (zm S):=⟨_,rfl⟩
    have HG:Hid (kf (zm S)=g):=hg.symm
    rw [<-hg]
    clear hrd3 hkp3 hS3 hbx hg HC
    obtain ⟨g1,g2⟩:=g
    unfold fv
    simp only
    go_wp2_with fail
    refine bodyPost_ret (v:=.agg #[.int .i64 g1,.int .i64 g2]) (by simp [results,Tryz.results122,go_sem, *]) rfl ?_
    exact zf HD.out.1 HD.out.2.1 HL.out HNB.out HWW.out HG.out HD.out.2.2
   ·have H2:Hid (¬ xt=qjp):=hk
    have HSK:Hid (Calls Tryz.prog 121 #[.pointer (some ⟨rb,0,none⟩),.string ⟨#[37,114,105,103,104,116]⟩] V2 fun e W'=>e=.returned (.bool false)/\(∃ h',RD w W' rb h' S qs)/\Keep V2 W'):=by
     obtain ⟨h',hrd⟩:=HV2.out.1
     exact kq ⟨#[37,114,105,103,104,116]⟩ xu w V2 rb h' S qs hrd (by rw [HX.out];exact hk)
    clear hk
    go_wp2_with fail
    refine HSK.out.mono ?_
    rintro e V3 ⟨rfl,hrdY,hkY⟩
    have HV3:Hid ((∃ h',RD w V3 rb h' S qs)/\Keep W V3/\V3.heap[nb]?=some (.cells #[.int .i64 0,.int .i64 0] 125 (0,0))/\V3.heap[kb]?=some (.cells #[.int .i64 xk,.string xt,.int .i64 xa] 149 (0,0))):=⟨hrdY,HV2.out.2.1.trans hkY,HKP.out HV2.out.2.2 hkY⟩
    clear hrdY hkY HSK HV2
    by_cases hk:xt=tNon
    ·have HP:Hid (zm S=kw ⟨xk,xt,xa⟩ 3 S.next):=by
      show _=_
      unfold zm
      rw [HX.out]
      simp only
      rw [if_neg H0.out,if_neg H1.out,if_neg H2.out,if_pos hk]
     have hkb:xt=⟨#[37,110,111,110,97,115,115,111,99]⟩:=hk
     have HSK:Hid (Calls Tryz.prog 121 #[.pointer (some ⟨rb,0,none⟩),.string ⟨#[37,110,111,110,97,115,115,111,99]⟩] V3 fun e W'=>e=.returned (.bool true)/\(∃ h',RD w W' rb h' S.next qs)/\Keep V3 W'):=by
      obtain ⟨h',hrd⟩:=HV3.out.1
      exact kk ⟨#[37,110,111,110,97,115,115,111,99]⟩ xu w V3 rb h' S qs hrd (by rw [HX.out];exact hkb)
     clear hk hkb
     go_wp2_with fail
     refine HSK.out.mono ?_
     rintro e Y ⟨rfl,hrdY,hkY⟩
     have HY:Hid ((∃ h',RD w Y rb h' S.next qs)/\Keep W Y/\Y.heap[nb]?=some (.cells #[.int .i64 0,.int .i64 0] 125 (0,0))/\Y.heap[kb]?=some (.cells #[.int .i64 xk,.string xt,.int .i64 xa] 149 (0,0))):=⟨hrdY,HV3.out.2.1.trans hkY,HKP.out HV3.out.2.2 hkY⟩
     clear hrdY hkY HSK
     have HC:Hid (Calls Tryz.prog 139 #[.pointer (some ⟨rb,0,none⟩),.agg #[.int .i64 xk,.string xt,.int .i64 xa],.int .i64 3] Y fun e W'=>Did w Y rb qs (zm S) e W'):=by
      obtain ⟨h',hrd⟩:=HY.out.1
      rw [HP.out]
      exact qbj 3 ⟨xk,xt,xa⟩ w _ rb h' S.next qs hrd
     obtain ⟨p0,p1,p2⟩:=yy HY.out.2.2.2
     go_wp2_with fail
     refine HC.out.mono ?_
     clear p0 p1 p2
     intro e V hD
     obtain ⟨h3,S3,rfl,hrd3,hkp3,hS3⟩:=hD
     have hbx:=HKP.out HY.out.2.2 hkp3
     have HD:Hid (RD w V rb h3 S3 qs/\Keep W V/\∀ S1,zm S=.ok S1->S3=S1):=⟨hrd3,HY.out.2.1.trans hkp3,hS3⟩
     obtain ⟨q3,q4,z3,z4⟩:=zg hbx.1
     have HL:Hid (Loc V nb 125):=⟨_,hbx.1⟩
     obtain ⟨g,hg⟩:∃ g,g=kf (zm S):=⟨_,rfl⟩
     have HG:Hid (kf (zm S)=g):=hg.symm
     rw [<-hg]
     clear hrd3 hkp3 hS3 hbx hg HC
     obtain ⟨g1,g2⟩:=g
     unfold fv
     simp only
     go_wp2_with fail
     refine bodyPost_ret (v:=.agg #[.int .i64 g1,.int .i64 g2]) (by simp [results,Tryz.results122,go_sem, *]) rfl ?_
     exact zf HD.out.1 HD.out.2.1 HL.out HNB.out HWW.out HG.out HD.out.2.2
    ·have H3:Hid (¬ xt=tNon):=hk
     have HSK:Hid (Calls Tryz.prog 121 #[.pointer (some ⟨rb,0,none⟩),.string ⟨#[37,110,111,110,97,115,115,111,99]⟩] V3 fun e W'=>e=.returned (.bool false)/\(∃ h',RD w W' rb h' S qs)/\Keep V3 W'):=by
      obtain ⟨h',hrd⟩:=HV3.out.1
      exact kq ⟨#[37,110,111,110,97,115,115,111,99]⟩ xu w V3 rb h' S qs hrd (by rw [HX.out];exact hk)
     clear hk
     go_wp2_with fail
     refine HSK.out.mono ?_
     rintro e V4 ⟨rfl,hrdY,hkY⟩
     have HV4:Hid ((∃ h',RD w V4 rb h' S qs)/\Keep W V4/\V4.heap[nb]?=some (.cells #[.int .i64 0,.int .i64 0] 125 (0,0))/\V4.heap[kb]?=some (.cells #[.int .i64 xk,.string xt,.int .i64 xa] 149 (0,0))):=⟨hrdY,HV3.out.2.1.trans hkY,HKP.out HV3.out.2.2 hkY⟩
     clear hrdY hkY HSK HV3
     by_cases hk:xt=qjq
     ·have HP:Hid (zm S=vo ⟨xk,xt,xa⟩ S.next):=by
       show _=_
       unfold zm
       rw [HX.out]
       simp only
       rw [if_neg H0.out,if_neg H1.out,if_neg H2.out,if_neg H3.out,if_pos hk]
      have hkb:xt=⟨#[37,115,116,97,114,116]⟩:=hk
      have HSK:Hid (Calls Tryz.prog 121 #[.pointer (some ⟨rb,0,none⟩),.string ⟨#[37,115,116,97,114,116]⟩] V4 fun e W'=>e=.returned (.bool true)/\(∃ h',RD w W' rb h' S.next qs)/\Keep V4 W'):=by
       obtain ⟨h',hrd⟩:=HV4.out.1
       exact kk ⟨#[37,115,116,97,114,116]⟩ xu w V4 rb h' S qs hrd (by rw [HX.out];exact hkb)
      clear hk hkb
      go_wp2_with fail
      refine HSK.out.mono ?_
      rintro e Y ⟨rfl,hrdY,hkY⟩
      have HY:Hid ((∃ h',RD w Y rb h' S.next qs)/\Keep W Y/\Y.heap[nb]?=some (.cells #[.int .i64 0,.int .i64 0] 125 (0,0))/\Y.heap[kb]?=some (.cells #[.int .i64 xk,.string xt,.int .i64 xa] 149 (0,0))):=⟨hrdY,HV4.out.2.1.trans hkY,HKP.out HV4.out.2.2 hkY⟩
      clear hrdY hkY HSK
      have HC:Hid (Calls Tryz.prog 140 #[.pointer (some ⟨rb,0,none⟩),.agg #[.int .i64 xk,.string xt,.int .i64 xa]] Y fun e W'=>Did w Y rb qs (zm S) e W'):=by
       obtain ⟨h',hrd⟩:=HY.out.1
       rw [HP.out]
       exact qi6 ⟨xk,xt,xa⟩ w _ rb h' S.next qs hrd
      obtain ⟨p0,p1,p2⟩:=yy HY.out.2.2.2
      go_wp2_with fail
      refine HC.out.mono ?_
      clear p0 p1 p2
      intro e V hD
      obtain ⟨h3,S3,rfl,hrd3,hkp3,hS3⟩:=hD
      have hbx:=HKP.out HY.out.2.2 hkp3
      have HD:Hid (RD w V rb h3 S3 qs/\Keep W V/\∀ S1,zm S=.ok S1->S3=S1):=⟨hrd3,HY.out.2.1.trans hkp3,hS3⟩
      obtain ⟨q3,q4,z3,z4⟩:=zg hbx.1
      have HL:Hid (Loc V nb 125):=⟨_,hbx.1⟩
      obtain ⟨g,hg⟩:∃ g,g=kf (zm S):=⟨_,rfl⟩
      have HG:Hid (kf (zm S)=g):=hg.symm
      rw [<-hg]
      clear hrd3 hkp3 hS3 hbx hg HC
      obtain ⟨g1,g2⟩:=g
      unfold fv
      simp only
      go_wp2_with fail
      refine bodyPost_ret (v:=.agg #[.int .i64 g1,.int .i64 g2]) (by simp [results,Tryz.results122,go_sem, *]) rfl ?_
      exact zf HD.out.1 HD.out.2.1 HL.out HNB.out HWW.out HG.out HD.out.2.2
     ·have H4:Hid (¬ xt=qjq):=hk
      have HSK:Hid (Calls Tryz.prog 121 #[.pointer (some ⟨rb,0,none⟩),.string ⟨#[37,115,116,97,114,116]⟩] V4 fun e W'=>e=.returned (.bool false)/\(∃ h',RD w W' rb h' S qs)/\Keep V4 W'):=by
       obtain ⟨h',hrd⟩:=HV4.out.1
       exact kq ⟨#[37,115,116,97,114,116]⟩ xu w V4 rb h' S qs hrd (by rw [HX.out];exact hk)
      clear hk
      go_wp2_with fail
      refine HSK.out.mono ?_
      rintro e V5 ⟨rfl,hrdY,hkY⟩
      have HV5:Hid ((∃ h',RD w V5 rb h' S qs)/\Keep W V5/\V5.heap[nb]?=some (.cells #[.int .i64 0,.int .i64 0] 125 (0,0))/\V5.heap[kb]?=some (.cells #[.int .i64 xk,.string xt,.int .i64 xa] 149 (0,0))):=⟨hrdY,HV4.out.2.1.trans hkY,HKP.out HV4.out.2.2 hkY⟩
      clear hrdY hkY HSK HV4
      by_cases hk:xt=tExp
      ·have HP:Hid (zm S=jg ⟨xk,xt,xa⟩ S.next):=by
        show _=_
        unfold zm
        rw [HX.out]
        simp only
        rw [if_neg H0.out,if_neg H1.out,if_neg H2.out,if_neg H3.out,if_neg H4.out,if_pos hk]
       have hkb:xt=⟨#[37,101,120,112,101,99,116]⟩:=hk
       have HSK:Hid (Calls Tryz.prog 121 #[.pointer (some ⟨rb,0,none⟩),.string ⟨#[37,101,120,112,101,99,116]⟩] V5 fun e W'=>e=.returned (.bool true)/\(∃ h',RD w W' rb h' S.next qs)/\Keep V5 W'):=by
        obtain ⟨h',hrd⟩:=HV5.out.1
        exact kk ⟨#[37,101,120,112,101,99,116]⟩ xu w V5 rb h' S qs hrd (by rw [HX.out];exact hkb)
       clear hk hkb
       go_wp2_with fail
       refine HSK.out.mono ?_
       rintro e Y ⟨rfl,hrdY,hkY⟩
       have HY:Hid ((∃ h',RD w Y rb h' S.next qs)/\Keep W Y/\Y.heap[nb]?=some (.cells #[.int .i64 0,.int .i64 0] 125 (0,0))/\Y.heap[kb]?=some (.cells #[.int .i64 xk,.string xt,.int .i64 xa] 149 (0,0))):=⟨hrdY,HV5.out.2.1.trans hkY,HKP.out HV5.out.2.2 hkY⟩
       clear hrdY hkY HSK
       have HC:Hid (Calls Tryz.prog 141 #[.pointer (some ⟨rb,0,none⟩),.agg #[.int .i64 xk,.string xt,.int .i64 xa]] Y fun e W'=>Did w Y rb qs (zm S) e W'):=by
        obtain ⟨h',hrd⟩:=HY.out.1
        rw [HP.out]
        exact qhu ⟨xk,xt,xa⟩ w _ rb h' S.next qs hrd
       obtain ⟨p0,p1,p2⟩:=yy HY.out.2.2.2
       go_wp2_with fail
       refine HC.out.mono ?_
       clear p0 p1 p2
       intro e V hD
       obtain ⟨h3,S3,rfl,hrd3,hkp3,hS3⟩:=hD
       have hbx:=HKP.out HY.out.2.2 hkp3
       have HD:Hid (RD w V rb h3 S3 qs/\Keep W V/\∀ S1,zm S=.ok S1->S3=S1):=⟨hrd3,HY.out.2.1.trans hkp3,hS3⟩
       obtain ⟨q3,q4,z3,z4⟩:=zg hbx.1
       have HL:Hid (Loc V nb 125):=⟨_,hbx.1⟩
       obtain ⟨g,hg⟩:∃ g,g=kf (zm S):=⟨_,rfl⟩
       have HG:Hid (kf (zm S)=g):=hg.symm
       rw [<-hg]
       clear hrd3 hkp3 hS3 hbx hg HC
       obtain ⟨g1,g2⟩:=g
       unfold fv
       simp only
       go_wp2_with fail
       refine bodyPost_ret (v:=.agg #[.int .i64 g1,.int .i64 g2]) (by simp [results,Tryz.results122,go_sem, *]) rfl ?_
       exact zf HD.out.1 HD.out.2.1 HL.out HNB.out HWW.out HG.out HD.out.2.2
      ·have H5:Hid (¬ xt=tExp):=hk
       have HSK:Hid (Calls Tryz.prog 121 #[.pointer (some ⟨rb,0,none⟩),.string ⟨#[37,101,120,112,101,99,116]⟩] V5 fun e W'=>e=.returned (.bool false)/\(∃ h',RD w W' rb h' S qs)/\Keep V5 W'):=by
        obtain ⟨h',hrd⟩:=HV5.out.1
        exact kq ⟨#[37,101,120,112,101,99,116]⟩ xu w V5 rb h' S qs hrd (by rw [HX.out];exact hk)
       clear hk
       go_wp2_with fail
       refine HSK.out.mono ?_
       rintro e V6 ⟨rfl,hrdY,hkY⟩
       have HV6:Hid ((∃ h',RD w V6 rb h' S qs)/\Keep W V6/\V6.heap[nb]?=some (.cells #[.int .i64 0,.int .i64 0] 125 (0,0))/\V6.heap[kb]?=some (.cells #[.int .i64 xk,.string xt,.int .i64 xa] 149 (0,0))):=⟨hrdY,HV5.out.2.1.trans hkY,HKP.out HV5.out.2.2 hkY⟩
       clear hrdY hkY HSK HV5
       have HP:Hid (zm S=.error (zj ⟨xk,xt,xa⟩)):=by
        show _=_
        unfold zm
        rw [HX.out]
        simp only
        rw [if_neg H0.out,if_neg H1.out,if_neg H2.out,if_neg H3.out,if_neg H4.out,if_neg H5.out]
       obtain ⟨p0,p1,p2⟩:=yy HV6.out.2.2.2
       go_wp2_with fail
       refine (jo ⟨xk,xt,xa⟩ _).mono ?_
       rintro e V ⟨rfl,hB⟩
       have HB:Hid (Below V6.heap.size V6 V):=hB
       clear hB p0 p1 p2
       obtain ⟨q3,q4,z3,z4⟩:=zg (qf HB.out HV6.out.2.2.1)
       unfold fv zj
       simp only
       go_wp2_with fail
       refine bodyPost_ret (v:=.agg #[.int .i64 1,.int .i64 xa]) (by simp [results,Tryz.results122,go_sem, *]) rfl ?_
       obtain ⟨h',hrd⟩:=HV6.out.1
       exact zf (hrd.step HB.out) (HV6.out.2.1.trans (qp HB.out)) ⟨_,qf HB.out HV6.out.2.2.1⟩ HNB.out HWW.out (by rw [HP.out];rfl) (fun S1 h=>by rw [HP.out] at h;cases h)
structure RDlt (B rb:Nat) (h:RHd) (qs:List (Ru × Option Addr × Nat)):Prop where
 rb:rb<B
 ta:∀ i n c,(Value.slice h.ta n c).ownBlock=some i->i<B
 ra:∀ i n c,(Value.slice h.ra n c).ownBlock=some i->i<B
 row:∀ q∈qs,∀ i n c,(Value.slice q.2.1 n c).ownBlock=some i->i<B
theorem qca {ao:Option Addr} {n c n' c' i:Nat} (h:(Value.slice ao n c).ownBlock=some i):(Value.slice ao n' c').ownBlock=some i:=by
 cases ao with
 | none=>cases h
 | some a=>exact h
theorem RD.lt {w W:World} {rb:Nat} {h:RHd} {S:St} {qs:List (Ru × Option Addr × Nat)} (r:RD w W rb h S qs):RDlt W.heap.size rb h qs :=
 ⟨(Array.getElem?_eq_some_iff.1 r.box).1,fun i _ _ hi=>(World.ownsRow.lt r.tok i (qca hi)).2,fun i _ _ hi=>(World.ownsRow.lt r.rul i (qca hi)).2,fun q hq i _ _ hi=>(World.ownsRow.lt (r.row q hq) i (qca hi)).2⟩
theorem RDlt.mono {B B' rb:Nat} {h h':RHd} {qs:List (Ru × Option Addr × Nat)} (l:RDlt B rb h qs) (hB:B<=B') (h1:h'.ta=h.ta) (h2:h'.ra=h.ra):RDlt B' rb h' qs :=
 ⟨by have:=l.rb;omega,fun i n c hi=>by rw [h1] at hi;have:=l.ta i n c hi;omega,fun i n c hi=>by rw [h2] at hi;have:=l.ra i n c hi;omega,fun q hq i n c hi=>by have:=l.row q hq i n c hi;omega⟩
theorem RD.above {w V V':World} {rb B:Nat} {h:RHd} {S:St} {qs:List (Ru × Option Addr × Nat)} (r:RD w V rb h S qs) (l:RDlt B rb h qs) (hb:Below B V V') (hw:w.heap.size<=B):RD w V' rb h S qs :=
 ⟨by rw [hb.block rb l.rb];exact r.box,r.wds,qh r.tok (fun i hi=>hb.block i (l.ta i _ _ hi)),qh r.rul (fun i hi=>hb.block i (l.ra i _ _ hi)),r.map,fun q hq=>qh (r.row q hq) (fun i hi=>hb.block i (l.row q hq i _ _ hi)),r.bel.trans (hb.mono hw),r.new,r.ok⟩
theorem qfy:∀ {f:Nat} {l:List ByteArray} {S:St} {g:Flt},symP f l S=.error g->g.1=1
 | 0,l,S,g,h=>by cases h
 | f+1,l,S,g,h=>by
  unfold symP at h
  split at h
  ·split at h
   ·cases h;rfl
   ·exact qfy h
  ·cases h
def SymA (w W:World) (rb:Nat) (h:RHd) (qs:List (Ru × Option Addr × Nat)) (R:Except Flt (List ByteArray × St)) (e:Ending) (W':World):Prop :=
 match R with
 | .ok (l,S1)=>∃ xa xc h1,e=.returned (.tuple #[.slice xa l.length xc,fv (0,0)])/\RD w W' rb h1 S1 qs/\h1.ta=h.ta/\h1.ra=h.ra/\OwnS W' W.heap.size (.slice xa l.length xc) l/\Kept (One rb) W W'
 | .error g=>e=.returned (.tuple #[.slice none 0 0,fv g])/\(∃ h1 S1,RD w W' rb h1 S1 qs/\h1.ta=h.ta/\h1.ra=h.ra)/\Kept (One rb) W W'
theorem Kept.far {W W':World} {rb b:Nat} (k:Kept (One rb) W W') (hb:W.heap.size<=b) (j:Nat) (u:Value):Kept (One rb) W (W'.setCell ⟨b,j,none⟩ u):=k.setCell _ _ (fun h=>by simp only at h;omega)
theorem qln (w W:World) (rb:Nat) (h:RHd) (S:St) (qs:List (Ru × Option Addr × Nat)) (r:RD w W rb h S qs) (f0:Nat) (hf0:S.ws.length<=f0) :
  Calls Tryz.prog 160 #[.pointer (some ⟨rb,0,none⟩)] W fun e W'=>SymA w W rb h qs (symP f0 [] S) e W':=by
 have hb1:(W.alloc (.cells #[.int .i64 0,.int .i64 0] 125)).heap[W.heap.size]?=some (.cells #[.int .i64 0,.int .i64 0] 125 (0,0)):=heap_alloc_new _ _
 have HR:Hid (RD w (W.alloc (.cells #[.int .i64 0,.int .i64 0] 125)) rb h S qs/\RDlt (W.alloc (.cells #[.int .i64 0,.int .i64 0] 125)).heap.size rb h qs):=⟨r.step (qb _ _),(r.step (qb _ _)).lt⟩
 have HWW:Hid (w.heap.size<=W.heap.size/\rb<W.heap.size):=⟨r.bel.size,(Array.getElem?_eq_some_iff.1 r.box).1⟩
 have HB1:Hid (Below W.heap.size W (W.alloc (.cells #[.int .i64 0,.int .i64 0] 125))):=qb _ _
 obtain ⟨R,hR⟩:∃ R,symP f0 [] S=R:=⟨_,rfl⟩
 rw [hR]
 have HR0:Hid (symP f0 [] S=R):=hR
 clear r hR
 go_enter Tryz.func160,Tryz.ntmps160
 go_upto_block 0 with fail
 generalize W.alloc (.cells #[.int .i64 0,.int .i64 0] 125)=W1 at HR hb1 HB1 ⊢
 obtain ⟨nb,hnb⟩:∃ nb,nb=W.heap.size:=⟨_,rfl⟩
 rw [<-hnb] at hb1 ⊢
 have HNB:Hid (W.heap.size<=nb/\rb<nb):=⟨Nat.le_of_eq hnb.symm,by rw [hnb];exact HWW.out.2⟩
 have HBX:Hid (W1.heap[nb]?=some (.cells #[.int .i64 0,.int .i64 0] 125 (0,0))):=hb1
 clear hb1 hnb
 go_wp2_with fail
 go_loopg [4] f0 (fun kx s4 wr=>∃ (xa:Option Addr) (m xc f:Nat),s4=.slice xa m xc/\f<=kx/\Hid (∃ l S1 h1,m=l.length/\l.length<=20/\S1.ws.length<=f/\RD w wr rb h1 S1 qs/\h1.ta=h.ta/\h1.ra=h.ra/\Kept (One rb) W1 wr/\OwnS wr W1.heap.size (.slice xa m xc) l/\symP f l S1=R))
 case atStart=>exact ⟨none,0,0,f0,rfl,Nat.le_refl _,(⟨[],S,h,rfl,by decide,hf0,HR.out.1,rfl,rfl,Kept.refl _ _,World.ownsRow_nil _ _ _ _,HR0.out⟩:∃ l S1 h1,0=l.length/\l.length<=20/\S1.ws.length<=f0/\RD w W1 rb h1 S1 qs/\h1.ta=h.ta/\h1.ra=h.ra/\Kept (One rb) W1 W1/\OwnS W1 W1.heap.size (.slice none 0 0) l/\symP f0 l S1=R)⟩
 case round =>
  obtain ⟨xa,m,xc,f,rfl,hfk,J⟩:=hrel
  obtain ⟨l,S1,h1,hm,hl20,hlen,hrd,hta,hra,hkp,hown,hN⟩:=J.out
  clear J HR0
  obtain ⟨f',rfl⟩:∃ f',f=f'+1:=⟨f - 1,by have:=hrd.ok.ends.pos;omega⟩
  have hslice:m<=xc/\xc<=9223372036854775807:=by
   rw [hm] at hown
   obtain ⟨ao,c,e,q1,q2,q3⟩:=zh hown
   cases e
   unfold maxLen at q2
   omega
  have HWD:Hid (∀ V:World,Below wr.heap.size wr V->Calls Tryz.prog 123 #[.pointer (some ⟨rb,0,none⟩)] V fun e W'=>e=.returned (wv S1.hd)/\Below V.heap.size V W'):=fun V hV=>kp w V rb h1 S1 qs (hrd.step hV)
  have HJ:Hid (m=l.length/\l.length<=20/\S1.ws.length<=f'+1/\RD w wr rb h1 S1 qs/\h1.ta=h.ta/\h1.ra=h.ra/\Kept (One rb) W1 wr/\OwnS wr W1.heap.size (.slice xa m xc) l):=⟨hm,hl20,hlen,hrd,hta,hra,hkp,hown⟩
  have HSY:Hid (R=if S1.hd.k=1 then (if l.length=20 then .error (zj S1.hd) else symP f' (l++[S1.hd.t]) S1.next) else .ok (l,S1)):=hN.symm
  have hm20:m<=20:=by omega
  clear hm hl20 hlen hrd hta hra hkp hown hN
  unfold wv at HWD
  generalize hx:S1.hd=x at *
  obtain ⟨xk,xt,ya⟩:=x
  simp only at HWD HSY
  have HX:Hid (S1.hd=⟨xk,xt,ya⟩):=hx
  clear hx
  have hfk':=qf9 xk ya xt
  have hft':=qjr xk ya xt
  go_wp2_with fail
  refine (HWD.out _ (Below.refl _ _)).mono ?_
  rintro e W2 ⟨rfl,hB⟩
  have HB2:Hid (Below wr.heap.size wr W2):=hB
  clear hB
  by_cases hk:xk=1
  ·have hq:(xk == 1)=true:=by simp [hk]
   have HS2:Hid (R=if l.length=20 then .error (zj ⟨xk,xt,ya⟩) else symP f' (l++[xt]) S1.next):=by
    show _=_
    have:=HSY.out
    rw [if_pos hk] at this
    exact this
   have HE:Hid (Ends S1.ws.tail):=(HJ.out.2.2.2.1.ok.ends.tail_of_kind (by rw [show yv S1.ws=⟨xk,xt,ya⟩ from HX.out];simp only;rw [hk];decide)).2
   clear hk HSY
   by_cases h20:m=20
   ·have hq2:((m:Int) == 20)=true:=by simp [h20]
    have HF:Hid (R=.error (zj ⟨xk,xt,ya⟩)):=by
     show _=_
     have:=HS2.out
     rw [if_pos (by rw [<-HJ.out.1];exact h20)] at this
     exact this
    clear h20 HS2
    go_wp2_with fail
    refine (HWD.out _ HB2.out).mono ?_
    rintro e W3 ⟨rfl,hB⟩
    have HB3:Hid (Below wr.heap.size wr W3):=qd HB2.out hB
    clear hB
    go_wp2_with fail
    refine (jo ⟨xk,xt,ya⟩ _).mono ?_
    rintro e W4 ⟨rfl,hB⟩
    have HB4:Hid (Below wr.heap.size wr W4):=qd HB3.out hB
    clear hB
    have hkW:Kept (One rb) W1 W4:=HJ.out.2.2.2.2.2.2.1.trans (zk HB4.out) (fun i _ hi=>hi)
    have t2:W4.heap[nb]?=some (.cells #[.int .i64 0,.int .i64 0] 125 (0,0)):=by
     rw [hkW.block nb (Array.getElem?_eq_some_iff.1 HBX.out).1 (fun e=>by have:=HNB.out.2;unfold One at e;omega)]
     exact HBX.out
    obtain ⟨q3,q4,z3,z4⟩:=zg t2
    have HL:Hid (Loc W4 nb 125/\Kept (One rb) W W4):=⟨⟨_,t2⟩,(zk HB1.out).trans hkW (fun i _ hi=>hi)⟩
    clear t2 hkW
    unfold fv zj
    simp only
    go_wp2_with fail
    refine bodyPost_ret (v:=.tuple #[.slice none 0 0,.agg #[.int .i64 1,.int .i64 ya]]) (by simp [results,Tryz.results160,go_sem, *]) rfl ?_
    rw [HF.out]
    refine ⟨rfl,⟨h1,S1,?_,HJ.out.2.2.2.2.1,HJ.out.2.2.2.2.2.1⟩,(HL.out.2.far HNB.out.1 _ _).far HNB.out.1 _ _⟩
    have hw:=HWW.out.1
    have hn:=HNB.out.1
    exact ((HJ.out.2.2.2.1.step HB4.out).far HL.out.1 (by decide) (by omega)).far (HL.out.1.set _ _ _) (by decide) (by omega)
   ·have hq2:((m:Int) == 20)=false:=by simp;omega
    have HF:Hid (symP f' (l++[xt]) S1.next=R):=by
     show _=_
     have:=HS2.out
     rw [if_neg (by rw [<-HJ.out.1];exact h20)] at this
     exact this.symm
    clear HS2
    go_wp2_with fail
    refine (HWD.out _ HB2.out).mono ?_
    rintro e W3 ⟨rfl,hB⟩
    have HB3:Hid (Below wr.heap.size wr W3):=qd HB2.out hB
    clear hB
    have hown3:OwnS W3 W1.heap.size (.slice xa m xc) l:=HJ.out.2.2.2.2.2.2.2.below HB3.out
    have hsz:W1.heap.size<=W3.heap.size:=Nat.le_trans HJ.out.2.2.2.2.2.2.1.size HB3.out.size
    obtain ⟨ao,n,c,W4,hrun,hn,ho4,hb4⟩:=(hown3.below (qb W3 (.cells #[.string xt] 9))).addRow (vx W3 [xt] (by simp)) (by simp;omega) (by have:=HJ.out.2.1;simp;omega) rfl
    have hbA:=qd HB3.out (qb W3 (.cells #[.string xt] 9))
    have hlt:RDlt W1.heap.size rb h1 qs:=HR.out.2.mono (Nat.le_refl _) HJ.out.2.2.2.2.1 HJ.out.2.2.2.2.2.1
    have hwB:w.heap.size<=W1.heap.size:=Nat.le_trans HWW.out.1 HB1.out.size
    have hrd4:RD w W4 rb h1 S1 qs:=(HJ.out.2.2.2.1.step hbA).above hlt hb4 hwB
    have hkA:Kept (One rb) W1 (W3.alloc (.cells #[.string xt] 9)):=HJ.out.2.2.2.2.2.2.1.trans (zk hbA) (fun i _ hi=>hi)
    have hk4:Kept (One rb) W1 W4:=⟨by rw [hb4.os];exact hkA.os,by rw [hb4.tape];exact hkA.tape,by rw [hb4.output];exact hkA.output,Nat.le_trans hkA.size hb4.size,fun k hk hS=>by rw [hb4.block k hk];exact hkA.block k hk hS⟩
    have HN':Hid (n=m+1):=by show _=_;rw [hn,List.length_append,HJ.out.1];rfl
    have H4:Hid (RD w W4 rb h1 S1 qs/\Kept (One rb) W1 W4/\OwnS W4 W1.heap.size (.slice ao n c) (l++[xt])/\n=(l++[xt]).length):=⟨hrd4,hk4,ho4,hn⟩
    have hrun2:(Builtin.append_ #[28,28] 28 #[.slice xa m xc,.slice (some ⟨W3.heap.size,0,none⟩) 1 1]).run Tryz.prog (W3.alloc (.cells #[.string xt] 9))=.ok (.slice ao n c) W4:=hrun
    clear hrun hn ho4 hb4 hbA hlt hwB hrd4 hkA hk4 hown3 hsz
    go_wp2_with (at_builtin;refine Lib.wpList_append_run _ rfl _ _ _ _ rfl _ _ rfl rfl _ _ hrun2 ?_)
    refine (qb1 w W4 rb h1 S1 qs H4.out.1 HE.out).mono ?_
    rintro e W5 ⟨rfl,hW5⟩
    have HF5:Hid (∃ l S1 h1,n=l.length/\l.length<=20/\S1.ws.length<=f'/\RD w W5 rb h1 S1 qs/\h1.ta=h.ta/\h1.ra=h.ra/\Kept (One rb) W1 W5/\OwnS W5 W1.heap.size (.slice ao n c) l/\symP f' l S1=R):=by
     refine ⟨l++[xt],S1.next,⟨h1.wb,h1.wo+3,h1.wc - 1,h1.ta,h1.tc,h1.ra,h1.rc⟩,H4.out.2.2.2,?_,?_,?_,HJ.out.2.2.2.2.1,HJ.out.2.2.2.2.2.1,?_,?_,HF.out⟩
     ·rw [<-H4.out.2.2.2,HN'.out]
      omega
     ·have h1:=j4 HJ.out.2.2.2.1.ok
      have h2:=HJ.out.2.2.1
      omega
     ·rw [hW5]
      exact H4.out.1.next HE.out
     ·rw [hW5]
      exact H4.out.2.1.setCell ⟨rb,0,none⟩ _ (fun _=>rfl)
     ·rw [hW5]
      have ho:=H4.out.2.2.1
      refine qh ho (fun i hi=>Below.heap_setCell _ _ _ _ (qr (qx ho hi) ⟨_,H4.out.1.box⟩ (by decide)))
    clear hW5 H4 h20
    go_wp2_with fail
    go_roundg f'
    case measure=>omega
    case rel=>exact ⟨ao,n,c,f',rfl,Nat.le_refl _,HF5⟩
  ·have hq:(xk == 1)=false:=by simpa using hk
   have HF:Hid (R=.ok (l,S1)):=by
    show _=_
    have:=HSY.out
    rw [if_neg hk] at this
    exact this
   clear hk HSY
   have hkW:Kept (One rb) W1 W2:=HJ.out.2.2.2.2.2.2.1.trans (zk HB2.out) (fun i _ hi=>hi)
   have t2:W2.heap[nb]?=some (.cells #[.int .i64 0,.int .i64 0] 125 (0,0)):=by
    rw [hkW.block nb (Array.getElem?_eq_some_iff.1 HBX.out).1 (fun e=>by have:=HNB.out.2;unfold One at e;omega)]
    exact HBX.out
   obtain ⟨q3,q4,z3,z4⟩:=zg t2
   have HL:Hid (Loc W2 nb 125/\Kept (One rb) W W2):=⟨⟨_,t2⟩,(zk HB1.out).trans hkW (fun i _ hi=>hi)⟩
   clear t2 hkW
   go_wp2_with fail
   refine bodyPost_ret (v:=.tuple #[.slice xa m xc,.agg #[.int .i64 0,.int .i64 0]]) (by simp [results,Tryz.results160,go_sem, *]) rfl ?_
   rw [HF.out]
   have hw:=HWW.out.1
   have hn:=HNB.out.1
   have hm:=HJ.out.1
   have ho:OwnS W2 W1.heap.size (.slice xa m xc) l:=HJ.out.2.2.2.2.2.2.2.below HB2.out
   have hnb:nb<W1.heap.size:=(Array.getElem?_eq_some_iff.1 HBX.out).1
   have ofar:∀ {V:World} {j:Nat} {u:Value},OwnS V W1.heap.size (.slice xa m xc) l->OwnS (V.setCell ⟨nb,j,none⟩ u) W1.heap.size (.slice xa m xc) l:=fun {V j u} o=>qh o (fun i hi=>Below.heap_setCell _ _ _ _ (fun e=>by simp only at e;have:=(World.ownsRow.lt o i hi).1;omega))
   subst hm
   refine ⟨xa,xc,h1,rfl,((HJ.out.2.2.2.1.step HB2.out).far HL.out.1 (by decide) (by omega)).far (HL.out.1.set _ _ _) (by decide) (by omega),HJ.out.2.2.2.2.1,HJ.out.2.2.2.2.2.1,zd (ofar (ofar ho)) HB1.out.size,(HL.out.2.far HNB.out.1 _ _).far HNB.out.1 _ _⟩
theorem RD.addRule {w W:World} {rb:Nat} {h:RHd} {S:St} {qs:List (Ru × Option Addr × Nat)} (r:RD w W rb h S qs) (u:Ru) (xa:Option Addr) (xc:Nat) (hx:OwnS W w.heap.size (.slice xa u.r.length xc) u.r) (hn:S.rs.length<100) :
  ∃ ao m c w',(Builtin.append_ #[23,23] 23 #[.slice h.ra S.rs.length h.rc,.slice (some ⟨W.heap.size,0,none⟩) 1 1]).run Tryz.prog (W.alloc (.cells #[.string u.l,.slice xa u.r.length xc,.string u.p] 55))=.ok (.slice ao m c) w'/\m=S.rs.length+1/\w'.heap[rb]?=some (.cells (rdC h S) 139 (0,0)) /\
   RD w (w'.setCell ⟨rb,6,none⟩ (.slice ao m c)) rb ⟨h.wb,h.wo,h.wc,h.ta,h.tc,ao,c⟩ (kg S u) (qs++[(u,xa,xc)])/\Keep W (w'.setCell ⟨rb,6,none⟩ (.slice ao m c)):=by
 obtain ⟨i0,hi,hz0,hz1,hz2⟩:=info_parts Tryz.info55
 have hb1:=qb W (.cells #[.string u.l,.slice xa u.r.length xc,.string u.p] 55)
 have g1:=r.step hb1
 have hx1:=hx.below hb1
 have hnews:∀ j v,(rulC [(u,xa,xc)])[j]?=some v->(W.alloc (.cells #[.string u.l,.slice xa u.r.length xc,.string u.p] 55)).cell? ((⟨W.heap.size,0,none⟩:Addr).add j)=some v:=by
  intro j v hv
  rw [Addr.add_lit,Nat.zero_add,World.cell?_alloc_mark,<-hv]
  exact List.getElem?_toArray (xs:=rulC [(u,xa,xc)]) (i:=j)
 obtain ⟨v',w',hr,h2,h3,-⟩:=run_append_own (P:=Tryz.prog) (W.alloc (.cells #[.string u.l,.slice xa u.r.length xc,.string u.p] 55)) w.heap.size 23 23 55 i0 _ 3 56 Tryz.underlying23 hi hz0 hz1 hz2 rfl (by decide) _ S.rs.length _ g1.rul ⟨W.heap.size,0,none⟩ 1 1 (rulC [(u,xa,xc)]) rfl hnews
  (fun v hv=>by simp [rulC] at hv;rcases hv with rfl | rfl | rfl <;> rfl) (by unfold maxLen;omega) (by omega) (by have:=g1.bel.size;exact this)
 obtain ⟨ao,c,rfl,-⟩:=zh h2
 have hbox:w'.heap[rb]?=some (.cells (rdC h S) 139 (0,0)):=by
  rw [h3.block rb (Array.getElem?_eq_some_iff.1 g1.box).1 (fun e=>qr ⟨_,g1.box⟩ (qx g1.rul e.symm) (by decide) rfl)]
  exact g1.box
 have far:∀ {E k n:Nat} {v:Value} {cs:List Value},w'.ownsRow w.heap.size E k v n cs->E≠139->(w'.setCell ⟨rb,6,none⟩ (.slice ao (S.rs.length+1) c)).ownsRow w.heap.size E k v n cs:=by
  intro E k n v cs ho hE
  exact qh ho (fun i hi=>Below.heap_setCell _ _ _ _ (qr (qx ho hi) ⟨_,hbox⟩ hE))
 refine ⟨ao,_,c,w',hr,rfl,hbox,⟨?_,r.wds,?_,?_,?_,fun q hq=>?_,?_,r.new,?_⟩,?_⟩
 ·rw [setCell_eq_setRow w' rb 6 _ 139 (0,0) _ hbox]
  have e:(rdC h S).setIfInBounds 6 (.slice ao (S.rs.length+1) c)=rdC ⟨h.wb,h.wo,h.wc,h.ta,h.tc,ao,c⟩ (kg S u):=by
   unfold rdC kg
   simp
  rw [e]
  exact setRow_heap _ _ _ _ 139 _ hbox
 ·exact far (qb2 g1.tok g1.rul (by decide) h3) (by decide)
 ·refine far ?_ (by decide)
  unfold kg
  simp only [List.length_append,List.length_cons,List.length_nil]
  rw [qe2]
  exact h2
 ·unfold kg
  simp only
  rw [List.map_append,r.map]
  rfl
 ·rcases List.mem_append.1 hq with h4 | h4
  ·exact far (qb2 (g1.row q h4) g1.rul (by decide) h3) (by decide)
  ·rw [List.mem_singleton] at h4
   subst h4
   exact far (qb2 hx1 g1.rul (by decide) h3) (by decide)
 ·exact (g1.bel.grown h3 (g1.bel.size) (fun k hk=>(World.ownsRow.lt g1.rul k hk).1)).setCell (p:=⟨rb,6,none⟩) r.new _
 ·refine ⟨r.ok.ends,r.ok.nt,r.ok.nl,r.ok.lv,?_⟩
  unfold kg
  simp only [List.length_append,List.length_cons,List.length_nil]
  omega
 ·have k1:Keep W w':=by
   refine (qp hb1).trans ⟨h3.size,fun b c2 T hb q1 q2 q3 q4=>?_⟩
   rw [h3.block b (Array.getElem?_eq_some_iff.1 hb).1 (fun e=>qr ⟨_,hb⟩ (qx g1.rul e.symm) q3 rfl)]
   exact hb
  exact k1.set ⟨_,hbox⟩ (.inl rfl) 6 _
def DidQ (w W:World) (rb:Nat) (R:Except Flt St) (e:Ending) (W':World):Prop :=
 ∃ h' S' qs',e=.returned (fv (kf R))/\RD w W' rb h' S' qs'/\Keep W W'/\∀ S1,R=.ok S1->S'=S1
theorem Did.q {w W W':World} {rb:Nat} {qs:List (Ru × Option Addr × Nat)} {R:Except Flt St} {e:Ending} (d:Did w W rb qs R e W'):DidQ w W rb R e W':=by
 obtain ⟨h',S',h1,h2,h3,h4⟩:=d
 exact ⟨h',S',qs,h1,h2,h3,h4⟩
theorem Went.keepT {w W W':World} {rb:Nat} {S:St} {qs:List (Ru × Option Addr × Nat)} (r:Went w W rb S qs W') {b:Nat} {o:Obj} (hb:W.heap[b]?=some o) (hne:b≠rb):W'.heap[b]?=some o:=by
 rw [r.2.block b (Array.getElem?_eq_some_iff.1 hb).1 (fun e=>hne e)]
 exact hb
theorem qna {W:World} {b:Nat} {a c d:Value} (h:W.heap[b]?=some (.cells #[a,c,d] 55 (0,0))):W.cell? ⟨b,0,none⟩=some a/\W.cell? ⟨b,1,none⟩=some c/\W.cell? ⟨b,2,none⟩=some d/\W.frozen? ⟨b,2,none⟩=false :=
 ⟨by rw [qe h];rfl,by rw [qe h];rfl,by rw [qe h];rfl,qi h 2⟩
theorem qlo (left:ByteArray) (w W:World) (rb:Nat) (h:RHd) (S:St) (qs:List (Ru × Option Addr × Nat)) (r:RD w W rb h S qs) :
  Calls Tryz.prog 144 #[.pointer (some ⟨rb,0,none⟩),.string left] W fun e W'=>DidQ w W rb (altP left S) e W':=by
 have HR:Hid (RD w (W.alloc (.cells #[.int .i64 0,.int .i64 0] 125)) rb h S qs):=r.step (qb _ _)
 have HWW:Hid (w.heap.size<=W.heap.size):=r.bel.size
 have hb1:(W.alloc (.cells #[.int .i64 0,.int .i64 0] 125)).heap[W.heap.size]?=some (.cells #[.int .i64 0,.int .i64 0] 125 (0,0)):=heap_alloc_new _ _
 have HK1:Hid (Keep W (W.alloc (.cells #[.int .i64 0,.int .i64 0] 125))/\W.heap.size<=(W.alloc (.cells #[.int .i64 0,.int .i64 0] 125)).heap.size):=⟨qp (qb _ _),(qb _ _).size⟩
 have hrb:rb<W.heap.size:=(Array.getElem?_eq_some_iff.1 r.box).1
 have hrl:S.rs.length<=h.rc/\h.rc<=9223372036854775807:=by
  obtain ⟨ao,c,e,q1,q2,q3⟩:=zh r.rul
  cases e
  unfold maxLen at q2
  omega
 clear r
 go_enter Tryz.func144,Tryz.ntmps144
 go_upto_region 1 with fail
 generalize W.alloc (.cells #[.int .i64 0,.int .i64 0] 125)=W1 at HR hb1 HK1 ⊢
 obtain ⟨nb,hnb⟩:∃ nb,nb=W.heap.size:=⟨_,rfl⟩
 rw [<-hnb] at hb1 ⊢
 have HNB:Hid (W.heap.size<=nb):=Nat.le_of_eq hnb.symm
 have HNR:Hid (nb≠rb):=by show _≠_;omega
 have HBX:Hid (W1.heap[nb]?=some (.cells #[.int .i64 0,.int .i64 0] 125 (0,0))):=hb1
 clear hb1 hnb hrb
 have b6:W1.cell? ⟨rb,6,none⟩=some (.slice h.ra S.rs.length h.rc):=by rw [qe HR.out.box];rfl
 by_cases h100:S.rs.length=100
 ·have hq:((S.rs.length:Int) == 100)=true:=by simp [h100]
  have HP:Hid (altP left S=.error (zj S.hd)):=by
   show _=_
   unfold altP
   rw [if_pos h100]
  have HWD:Hid (Calls Tryz.prog 123 #[.pointer (some ⟨rb,0,none⟩)] W1 fun e W'=>e=.returned (wv S.hd)/\Below W1.heap.size W1 W'):=kp w W1 rb h S qs HR.out
  unfold wv at HWD
  unfold zj at HP
  generalize S.hd=x at *
  obtain ⟨xk,xt,ya⟩:=x
  simp only at HWD HP
  clear h100
  generalize S.rs.length=rn at *
  go_wp2_with fail
  refine HWD.out.mono ?_
  rintro e W2 ⟨rfl,hB⟩
  have HB2:Hid (Below W1.heap.size W1 W2):=hB
  clear hB b6
  go_wp2_with fail
  refine (jo ⟨xk,xt,ya⟩ _).mono ?_
  rintro e W3 ⟨rfl,hB⟩
  have HB3:Hid (Below W1.heap.size W1 W3):=qd HB2.out hB
  clear hB
  obtain ⟨q3,q4,z3,z4⟩:=zg (qf HB3.out HBX.out)
  unfold fv zj
  simp only
  go_wp2_with fail
  refine bodyPost_ret (v:=.agg #[.int .i64 1,.int .i64 ya]) (by simp [results,Tryz.results144,go_sem, *]) rfl ?_
  exact (zf (HR.out.step HB3.out) (HK1.out.1.trans (qp HB3.out)) ⟨_,qf HB3.out HBX.out⟩ HNB.out HWW.out (by rw [HP.out];rfl) (fun S1 h=>by rw [HP.out] at h;cases h)).q
 ·have hq:((S.rs.length:Int) == 100)=false:=by simp;omega
  have HP0:Hid (altP left S=(match symP S.ws.length [] S with | .error e=>.error e | .ok (r,S1)=>if S1.hd.t=qjc then (match kv 1 S1.next with | .error e=>.error e | .ok (w,S2)=>.ok (kg S2 ⟨left,r,w.t⟩)) else .ok (kg S1 ⟨left,r,⟨#[]⟩⟩))):=by
   show _=_
   unfold altP
   rw [if_neg h100]
   rfl
  have HL100:Hid (S.rs.length<100):=by have:=HR.out.ok.nr;show _<_;omega
  have HSY:Hid (Calls Tryz.prog 160 #[.pointer (some ⟨rb,0,none⟩)] W1 fun e W'=>SymA w W1 rb h qs (symP S.ws.length [] S) e W'):=qln w W1 rb h S qs HR.out S.ws.length (Nat.le_refl _)
  clear h100
  generalize ern:S.rs.length=rn at *
  go_wp2_with fail
  refine HSY.out.mono ?_
  intro e W2 hA
  clear HSY b6 hq
  cases hS:symP S.ws.length [] S with
  | error g =>
   rw [hS] at hA
   obtain ⟨rfl,⟨h1,S1,hrd,hta,hra⟩,hkp⟩:=hA
   have hg1:=qfy hS
   obtain ⟨g1,g2⟩:=g
   simp only at hg1
   subst hg1
   have HP:Hid (altP left S=.error (1,g2)):=by
    show _=_
    rw [HP0.out,hS]
   have hw:Went w W1 rb S1 qs W2:=⟨⟨h1,hrd,fun _ _ r0=>by have e:=qcw HR.out r0;rw [hta,hra];exact e⟩,hkp⟩
   have t2:=qf (qb W2 (.cells #[.int .i64 1,.int .i64 g2] 125)) (hw.keepT HBX.out HNR.out)
   obtain ⟨q3,q4,z3,z4⟩:=zg t2
   have HD:Hid (RD w (W2.alloc (.cells #[.int .i64 1,.int .i64 g2] 125)) rb h1 S1 qs/\Keep W (W2.alloc (.cells #[.int .i64 1,.int .i64 g2] 125))/\Loc (W2.alloc (.cells #[.int .i64 1,.int .i64 g2] 125)) nb 125):=⟨hrd.step (qb _ _),(HK1.out.1.trans (hw.keep ⟨_,HR.out.box⟩)).trans (qp (qb _ _)),⟨_,t2⟩⟩
   clear hrd hkp hw t2 hS HP0 hta hra
   unfold fv
   simp only
   go_wp2_with fail
   refine bodyPost_ret (v:=.agg #[.int .i64 1,.int .i64 g2]) (by simp [results,Tryz.results144,go_sem, *]) rfl ?_
   exact (zf HD.out.1 HD.out.2.1 HD.out.2.2 HNB.out HWW.out (by rw [HP.out];rfl) (fun S1 h=>by rw [HP.out] at h;cases h)).q
  | ok p =>
   obtain ⟨l,S1⟩:=p
   rw [hS] at hA
   obtain ⟨xa,xc,h1,rfl,hrd,hta,hra,hown,hkp⟩:=hA
   have hw:Went w W1 rb S1 qs W2:=⟨⟨h1,hrd,fun _ _ r0=>by have e:=qcw HR.out r0;rw [hta,hra];exact e⟩,hkp⟩
   have HP1:Hid (altP left S=if S1.hd.t=qjc then (match kv 1 S1.next with | .error e=>.error e | .ok (w,S2)=>.ok (kg S2 ⟨left,l,w.t⟩)) else .ok (kg S1 ⟨left,l,⟨#[]⟩⟩)):=by
    show _=_
    rw [HP0.out,hS]
   have HRS:Hid (S1.rs.length<100):=by
    have h0:=HR.out.map
    have h1:=hrd.map
    have h2:=HL100.out
    show _<_
    rw [<-h1,List.length_map]
    rw [<-h0,List.length_map] at ern
    omega
   obtain ⟨V,hV⟩:∃ V,V=(W2.alloc (.cells #[.int .i64 0,.int .i64 0] 125)).alloc (.cells #[.string left,.slice xa l.length xc,.string ⟨#[]⟩] 55):=⟨_,rfl⟩
   have hbV:Below W2.heap.size W2 V:=by rw [hV];exact qd (qb _ _) (qb _ _)
   have hub:V.heap[W2.heap.size+1]?=some (.cells #[.string left,.slice xa l.length xc,.string ⟨#[]⟩] 55 (0,0)):=by
    have:=heap_alloc_new (W2.alloc (.cells #[.int .i64 0,.int .i64 0] 125)) (.cells #[.string left,.slice xa l.length xc,.string ⟨#[]⟩] 55)
    rw [qt] at this
    rw [hV]
    exact this
   have HV:Hid (RD w V rb h1 S1 qs/\Keep W V/\V.heap[nb]?=some (.cells #[.int .i64 0,.int .i64 0] 125 (0,0))/\V.heap[W2.heap.size+1]?=some (.cells #[.string left,.slice xa l.length xc,.string ⟨#[]⟩] 55 (0,0))/\OwnS V w.heap.size (.slice xa l.length xc) l/\W2.heap.size+1≠rb/\RDlt (W2.heap.size+1) rb h1 qs/\w.heap.size<=W2.heap.size+1):=⟨hrd.step hbV,(HK1.out.1.trans (hw.keep ⟨_,HR.out.box⟩)).trans (qp hbV),qf hbV (hw.keepT HBX.out HNR.out),hub,zd (hown.below hbV) (Nat.le_trans HWW.out HK1.out.2),by have:=(Array.getElem?_eq_some_iff.1 hrd.box).1;omega,hrd.lt.mono (Nat.le_succ _) rfl rfl,Nat.le_succ_of_le hrd.bel.size⟩
   clear hrd hta hra hown hkp hw hbV hub hS HP0 HL100 ern
   unfold fv
   simp only
   go_upto_region 7 with fail
   rw [<-hV]
   clear hV
   obtain ⟨ub,hub⟩:∃ ub,ub=W2.heap.size+1:=⟨_,rfl⟩
   rw [<-hub] at HV ⊢
   clear hub
   by_cases hpr:S1.hd.t=qjc
   ·have HSK:Hid (Calls Tryz.prog 121 #[.pointer (some ⟨rb,0,none⟩),.string ⟨#[37,112,114,101,99]⟩] V fun e W'=>e=.returned (.bool true)/\Went w V rb (qaj ⟨#[37,112,114,101,99]⟩ S1) qs W'):=qak ⟨#[37,112,114,101,99]⟩ xu w V rb h1 S1 qs HV.out.1 true ⟨fun _=>hpr,fun _=>rfl⟩
    rw [qki (t:=⟨#[37,112,114,101,99]⟩) hpr] at HSK
    have HP2:Hid (altP left S=(match kv 1 S1.next with | .error e=>.error e | .ok (w,S2)=>.ok (kg S2 ⟨left,l,w.t⟩))):=by
     show _=_
     have:=HP1.out
     rw [if_pos hpr] at this
     exact this
    clear hpr HP1
    go_wp2_with fail
    refine HSK.out.mono ?_
    rintro e V2 ⟨rfl,hw⟩
    have HV2:Hid ((∃ h',RD w V2 rb h' S1.next qs/\RDlt ub rb h' qs)/\Keep W V2/\V2.heap[nb]?=some (.cells #[.int .i64 0,.int .i64 0] 125 (0,0))/\V2.heap[ub]?=some (.cells #[.string left,.slice xa l.length xc,.string ⟨#[]⟩] 55 (0,0))/\OwnS V2 w.heap.size (.slice xa l.length xc) l/\ub≠rb/\w.heap.size<=ub):=⟨(by
     obtain ⟨⟨h',r',e'⟩,-⟩:=hw
     obtain ⟨ea,eb⟩:=e' h1 S1 HV.out.1
     exact ⟨h',r',HV.out.2.2.2.2.2.2.1.mono (Nat.le_refl _) ea eb⟩),HV.out.2.1.trans (hw.keep ⟨_,HV.out.1.box⟩),hw.keepT HV.out.2.2.1 HNR.out,hw.keepT HV.out.2.2.2.1 HV.out.2.2.2.2.2.1,qh HV.out.2.2.2.2.1 (fun i hi=>hw.2.block i (World.ownsRow.lt HV.out.2.2.2.2.1 i hi).2 (qr (qx HV.out.2.2.2.2.1 hi) ⟨_,HV.out.1.box⟩ (by decide))),HV.out.2.2.2.2.2.1,HV.out.2.2.2.2.2.2.2⟩
    clear hw HSK HV
    obtain ⟨h2,hrd2,hlt2⟩:=HV2.out.1
    have HTK:Hid (Calls Tryz.prog 143 #[.pointer (some ⟨rb,0,none⟩),.int .i64 1] V2 fun e W'=>e=.returned (.tuple #[wv (takeW 1 S1.next),fv (jp 1 S1.next)])/\Went w V2 rb (takeS 1 S1.next) qs W'):=jx 1 (by decide) w V2 rb h2 S1.next qs hrd2
    have HL2:Hid (RD w V2 rb h2 S1.next qs/\RDlt ub rb h2 qs):=⟨hrd2,hlt2⟩
    clear hrd2 hlt2
    unfold wv fv at HTK
    rcases ju 1 S1.next with ⟨hk,hP,hW,hS2,hF⟩ | ⟨hk,hP,hF,hS2⟩
    ·rw [hW,hS2,hF] at HTK
     generalize hy:S1.next.hd=y at *
     obtain ⟨yk,yt,ya⟩:=y
     simp only at HTK
     have HP:Hid (altP left S=.ok (kg S1.next.next ⟨left,l,yt⟩)):=by
      show _=_
      rw [HP2.out,hP]
     clear hk hP hW hS2 hF hy HP2
     go_wp2_with fail
     refine HTK.out.mono ?_
     rintro e V3 ⟨rfl,hw⟩
     obtain ⟨X0,hX0⟩:∃ X0,X0=(V3.alloc (.cells #[.int .i64 yk,.string yt,.int .i64 ya] 149)).alloc (.cells #[.int .i64 0,.int .i64 0] 125):=⟨_,rfl⟩
     have hbX:Below V3.heap.size V3 X0:=by rw [hX0];exact qd (qb _ _) (qb _ _)
     have hu3:X0.heap[ub]?=some (.cells #[.string left,.slice xa l.length xc,.string ⟨#[]⟩] 55 (0,0)):=qf hbX (hw.keepT HV2.out.2.2.2.1 HV2.out.2.2.2.2.2.1)
     have hown3:OwnS X0 w.heap.size (.slice xa l.length xc) l:=OwnS.below (qh HV2.out.2.2.2.2.1 (fun i hi=>hw.2.block i (World.ownsRow.lt HV2.out.2.2.2.2.1 i hi).2 (qr (qx HV2.out.2.2.2.2.1 hi) ⟨_,HL2.out.1.box⟩ (by decide)))) hbX
     have hkX:Keep W X0:=(HV2.out.2.1.trans (hw.keep ⟨_,HL2.out.1.box⟩)).trans (qp hbX)
     have hnX:=qf hbX (hw.keepT HV2.out.2.2.1 HNR.out)
     have hb2:Below ub X0 (X0.setCell ⟨ub,2,none⟩ (.string yt)):=(Below.refl _ _).setCell (p:=⟨ub,2,none⟩) (Nat.le_refl _) _
     have hrdX:∃ h',RD w (X0.setCell ⟨ub,2,none⟩ (.string yt)) rb h' S1.next.next qs:=by
      obtain ⟨⟨h3,r3,e3⟩,-⟩:=hw
      obtain ⟨ea,eb⟩:=e3 h2 S1.next HL2.out.1
      exact ⟨h3,(r3.step hbX).above (HL2.out.2.mono (Nat.le_refl _) ea eb) hb2 HV2.out.2.2.2.2.2.2⟩
     have hne:nb≠ub:=qr ⟨_,hnX⟩ ⟨_,hu3⟩ (by decide)
     have hu4:(X0.setCell ⟨ub,2,none⟩ (.string yt)).heap[ub]?=some (.cells #[.string left,.slice xa l.length xc,.string yt] 55 (0,0)):=by
      rw [setCell_eq_setRow X0 ub 2 _ 55 (0,0) _ hu3]
      exact setRow_heap _ _ _ _ 55 _ hu3
     have HX:Hid ((∃ h',RD w (X0.setCell ⟨ub,2,none⟩ (.string yt)) rb h' S1.next.next qs)/\Keep W (X0.setCell ⟨ub,2,none⟩ (.string yt))/\(X0.setCell ⟨ub,2,none⟩ (.string yt)).heap[nb]?=some (.cells #[.int .i64 0,.int .i64 0] 125 (0,0))/\(X0.setCell ⟨ub,2,none⟩ (.string yt)).heap[ub]?=some (.cells #[.string left,.slice xa l.length xc,.string yt] 55 (0,0))/\OwnS (X0.setCell ⟨ub,2,none⟩ (.string yt)) w.heap.size (.slice xa l.length xc) l/\S1.next.next.rs.length<100):=⟨hrdX,hkX.set ⟨_,hu3⟩ (.inr (.inr (.inl rfl))) _ _,by rw [Below.heap_setCell _ _ _ _ hne];exact hnX,hu4,qh hown3 (fun i hi=>Below.heap_setCell _ _ _ _ (qr (qx hown3 hi) ⟨_,hu3⟩ (by decide))),HRS.out⟩
     obtain ⟨-,-,v2,vf⟩:=qna hu3
     clear hw HTK hbX hu3 hown3 hkX hnX hb2 hrdX hne hu4
     go_upto_region 11 with fail
     rw [<-hX0]
     have y0:X0.cell? ⟨V3.heap.size,1,none⟩=some (.string yt):=by
      rw [hX0]
      exact qo (by rw [World.cell?_alloc_mark];rfl) _
     clear hX0
     go_upto_region 12 with fail
     obtain ⟨X,hXe⟩:∃ X,X=X0.setCell ⟨ub,2,none⟩ (.string yt):=⟨_,rfl⟩
     rw [<-hXe] at HX ⊢
     clear hXe v2 vf y0
     obtain ⟨hX,hrdX⟩:=HX.out.1
     have hn100:S1.next.next.rs.length<100:=HX.out.2.2.2.2.2
     obtain ⟨ao,mm,cc,Y,hrun,hmm,hbox,hrdY,hkY⟩:=(hrdX.step (qk X)).addRule ⟨left,l,yt⟩ xa xc HX.out.2.2.2.2.1 hn100
     have b6:X.cell? ⟨rb,6,none⟩=some (.slice hX.ra S1.next.next.rs.length hX.rc):=by rw [qe hrdX.box];rfl
     obtain ⟨u0,u1,u2,-⟩:=qna HX.out.2.2.2.1
     have d6:Y.cell? ⟨rb,6,none⟩=some (.slice hX.ra S1.next.next.rs.length hX.rc):=by rw [qe hbox];rfl
     have f6:Y.frozen? ⟨rb,6,none⟩=false:=qi hbox 6
     have hrun2:(Builtin.append_ #[23,23] 23 #[.slice hX.ra S1.next.next.rs.length hX.rc,.slice (some ⟨X.heap.size,0,none⟩) 1 1]).run Tryz.prog (X.alloc (.cells #[.string left,.slice xa l.length xc,.string yt] 55)).drew=.ok (.slice ao mm cc) Y:=hrun
     have HY:Hid ((∃ h' qs',RD w (Y.setCell ⟨rb,6,none⟩ (.slice ao mm cc)) rb h' (kg S1.next.next ⟨left,l,yt⟩) qs')/\Keep X (Y.setCell ⟨rb,6,none⟩ (.slice ao mm cc))):=⟨⟨_,_,hrdY⟩,hkY.size,hkY.loc⟩
     have u0':=qo u0 (.cells #[.string left,.slice xa l.length xc,.string yt] 55)
     have u1':=qo u1 (.cells #[.string left,.slice xa l.length xc,.string yt] 55)
     have u2':=qo u2 (.cells #[.string left,.slice xa l.length xc,.string yt] 55)
     have b6':=qo b6 (.cells #[.string left,.slice xa l.length xc,.string yt] 55)
     clear hrun hmm hbox hrdY hkY hn100 hrdX
     generalize hX.ra=qra at *
     generalize hX.rc=qrc at *
     generalize S1.next.next.rs.length=rn2 at b6 d6 hrun2 b6'
     generalize l.length=ln at hrun2 u1 u1' u0' u2' b6'
     go_cut [52] (fun s52 wd=>Hid ((∃ h' qs',RD w wd rb h' (kg S1.next.next ⟨left,l,yt⟩) qs')/\Keep X wd))
     case first =>
      go_region_law (refine zc rfl (.tmp 49) (.tmp 51) rfl rfl (by simp [Act.eval]) (by simp [Act.eval]) hrun2 ?_)
      all_goals (go_wp2_with fail;go_meet;exact HY)
     case rest =>
      obtain ⟨Z,hZ⟩:∃ Z,Z=wc:=⟨_,rfl⟩
      subst wc
      have HZ:Hid ((∃ h' qs',RD w Z rb h' (kg S1.next.next ⟨left,l,yt⟩) qs')/\Keep X Z):=hcut
      clear hcut HY hrun2 d6 f6 b6 b6' u0 u1 u2 u0' u1' u2'
      have t2:=HZ.out.2.loc _ _ _ HX.out.2.2.1 (by decide) (by decide) (by decide) (by decide)
      obtain ⟨q3,q4,z3,z4⟩:=zg t2
      have HL:Hid (Loc Z nb 125):=⟨_,t2⟩
      clear t2
      go_wp2_with fail
      refine bodyPost_ret (v:=.agg #[.int .i64 0,.int .i64 0]) (by simp [results,Tryz.results144,go_sem, *]) rfl ?_
      obtain ⟨h',qs',hrdZ⟩:=HZ.out.1
      exact (zf hrdZ (HX.out.2.1.trans HZ.out.2) HL.out HNB.out HWW.out (by rw [HP.out];rfl) (fun S1 h=>by rw [HP.out] at h;cases h;rfl)).q
    ·have HP:Hid (altP left S=.error (zj S1.next.hd)):=by
      show _=_
      rw [HP2.out,hP]
     rw [hF,hS2] at HTK
     unfold zj at HTK HP
     generalize takeW 1 S1.next=y at HTK
     generalize S1.next.hd.a=fa at *
     obtain ⟨yk,yt,ya⟩:=y
     simp only at HTK
     clear hk hP hF hS2 HP2
     go_wp2_with fail
     refine HTK.out.mono ?_
     rintro e V3 ⟨rfl,hw⟩
     have hb3:Below V3.heap.size V3 ((V3.alloc (.cells #[.int .i64 yk,.string yt,.int .i64 ya] 149)).alloc (.cells #[.int .i64 1,.int .i64 fa] 125)):=qd (qb _ _) (qb _ _)
     have t2:=qf hb3 (hw.keepT HV2.out.2.2.1 HNR.out)
     obtain ⟨q3,q4,z3,z4⟩:=zg t2
     have HD:Hid ((∃ h',RD w ((V3.alloc (.cells #[.int .i64 yk,.string yt,.int .i64 ya] 149)).alloc (.cells #[.int .i64 1,.int .i64 fa] 125)) rb h' S1.next qs)/\Keep W ((V3.alloc (.cells #[.int .i64 yk,.string yt,.int .i64 ya] 149)).alloc (.cells #[.int .i64 1,.int .i64 fa] 125))/\Loc ((V3.alloc (.cells #[.int .i64 yk,.string yt,.int .i64 ya] 149)).alloc (.cells #[.int .i64 1,.int .i64 fa] 125)) nb 125):=⟨(by
      obtain ⟨h3,r3⟩:=hw.rd
      exact ⟨h3,r3.step hb3⟩),(HV2.out.2.1.trans (hw.keep ⟨_,HL2.out.1.box⟩)).trans (qp hb3),⟨_,t2⟩⟩
     clear hw hb3 t2 HTK
     go_wp2_with fail
     refine bodyPost_ret (v:=.agg #[.int .i64 1,.int .i64 fa]) (by simp [results,Tryz.results144,go_sem, *]) rfl ?_
     obtain ⟨h3,r3⟩:=HD.out.1
     exact (zf r3 HD.out.2.1 HD.out.2.2 HNB.out HWW.out (by rw [HP.out];rfl) (fun S1 h=>by rw [HP.out] at h;cases h)).q
   ·have HSK:Hid (Calls Tryz.prog 121 #[.pointer (some ⟨rb,0,none⟩),.string ⟨#[37,112,114,101,99]⟩] V fun e W'=>e=.returned (.bool false)/\Went w V rb (qaj ⟨#[37,112,114,101,99]⟩ S1) qs W'):=qak ⟨#[37,112,114,101,99]⟩ xu w V rb h1 S1 qs HV.out.1 false ⟨fun h=>(by cases h),fun h=>absurd h hpr⟩
    rw [qmd (t:=⟨#[37,112,114,101,99]⟩) hpr] at HSK
    have HP:Hid (altP left S=.ok (kg S1 ⟨left,l,⟨#[]⟩⟩)):=by
     show _=_
     have:=HP1.out
     rw [if_neg hpr] at this
     exact this
    clear hpr HP1
    go_wp2_with fail
    refine HSK.out.mono ?_
    rintro e X ⟨rfl,hw⟩
    have HX:Hid ((∃ h',RD w X rb h' S1 qs)/\Keep W X/\X.heap[nb]?=some (.cells #[.int .i64 0,.int .i64 0] 125 (0,0))/\X.heap[ub]?=some (.cells #[.string left,.slice xa l.length xc,.string ⟨#[]⟩] 55 (0,0))/\OwnS X w.heap.size (.slice xa l.length xc) l/\S1.rs.length<100):=⟨hw.rd,HV.out.2.1.trans (hw.keep ⟨_,HV.out.1.box⟩),hw.keepT HV.out.2.2.1 HNR.out,hw.keepT HV.out.2.2.2.1 HV.out.2.2.2.2.2.1,qh HV.out.2.2.2.2.1 (fun i hi=>hw.2.block i (World.ownsRow.lt HV.out.2.2.2.2.1 i hi).2 (qr (qx HV.out.2.2.2.2.1 hi) ⟨_,HV.out.1.box⟩ (by decide))),HRS.out⟩
    clear hw HSK HV
    obtain ⟨hX,hrdX⟩:=HX.out.1
    have hn100:S1.rs.length<100:=HX.out.2.2.2.2.2
    obtain ⟨ao,mm,cc,Y,hrun,hmm,hbox,hrdY,hkY⟩:=(hrdX.step (qk X)).addRule ⟨left,l,⟨#[]⟩⟩ xa xc HX.out.2.2.2.2.1 hn100
    have b6:X.cell? ⟨rb,6,none⟩=some (.slice hX.ra S1.rs.length hX.rc):=by rw [qe hrdX.box];rfl
    obtain ⟨u0,u1,u2,-⟩:=qna HX.out.2.2.2.1
    have d6:Y.cell? ⟨rb,6,none⟩=some (.slice hX.ra S1.rs.length hX.rc):=by rw [qe hbox];rfl
    have f6:Y.frozen? ⟨rb,6,none⟩=false:=qi hbox 6
    have hrun2:(Builtin.append_ #[23,23] 23 #[.slice hX.ra S1.rs.length hX.rc,.slice (some ⟨X.heap.size,0,none⟩) 1 1]).run Tryz.prog (X.alloc (.cells #[.string left,.slice xa l.length xc,.string ⟨#[]⟩] 55)).drew=.ok (.slice ao mm cc) Y:=hrun
    have HY:Hid ((∃ h' qs',RD w (Y.setCell ⟨rb,6,none⟩ (.slice ao mm cc)) rb h' (kg S1 ⟨left,l,⟨#[]⟩⟩) qs')/\Keep X (Y.setCell ⟨rb,6,none⟩ (.slice ao mm cc))):=⟨⟨_,_,hrdY⟩,hkY.size,hkY.loc⟩
    have u0':=qo u0 (.cells #[.string left,.slice xa l.length xc,.string ⟨#[]⟩] 55)
    have u1':=qo u1 (.cells #[.string left,.slice xa l.length xc,.string ⟨#[]⟩] 55)
    have u2':=qo u2 (.cells #[.string left,.slice xa l.length xc,.string ⟨#[]⟩] 55)
    have b6':=qo b6 (.cells #[.string left,.slice xa l.length xc,.string ⟨#[]⟩] 55)
    clear hrun hmm hbox hrdY hkY hn100 hrdX
    generalize hX.ra=qra at *
    generalize hX.rc=qrc at *
    generalize S1.rs.length=rn2 at b6 d6 hrun2 b6'
    generalize l.length=ln at hrun2 u1 u1' u0' u2' b6'
    go_upto_region 12 with fail
    go_cut [52] (fun s52 wd=>Hid ((∃ h' qs',RD w wd rb h' (kg S1 ⟨left,l,⟨#[]⟩⟩) qs')/\Keep X wd))
    case first =>
     go_region_law (refine zc rfl (.tmp 49) (.tmp 51) rfl rfl (by simp [Act.eval]) (by simp [Act.eval]) hrun2 ?_)
     all_goals (go_wp2_with fail;go_meet;exact HY)
    case rest =>
     obtain ⟨Z,hZ⟩:∃ Z,Z=wc:=⟨_,rfl⟩
     subst wc
     have HZ:Hid ((∃ h' qs',RD w Z rb h' (kg S1 ⟨left,l,⟨#[]⟩⟩) qs')/\Keep X Z):=hcut
     clear hcut HY hrun2 d6 f6 b6 b6' u0 u1 u2 u0' u1' u2'
     have t2:=HZ.out.2.loc _ _ _ HX.out.2.2.1 (by decide) (by decide) (by decide) (by decide)
     obtain ⟨q3,q4,z3,z4⟩:=zg t2
     have HL:Hid (Loc Z nb 125):=⟨_,t2⟩
     clear t2
     go_wp2_with fail
     refine bodyPost_ret (v:=.agg #[.int .i64 0,.int .i64 0]) (by simp [results,Tryz.results144,go_sem, *]) rfl ?_
     obtain ⟨h',qs',hrdZ⟩:=HZ.out.1
     exact (zf hrdZ (HX.out.2.1.trans HZ.out.2) HL.out HNB.out HWW.out (by rw [HP.out];rfl) (fun S1 h=>by rw [HP.out] at h;cases h;rfl)).q
theorem qbv (S:St):S.next.ws.length<=S.ws.length:=by
 show S.ws.tail.length<=_
 rw [List.length_tail]
 omega
theorem qkk:∀ {f:Nat} {l l':List ByteArray} {S S1:St},symP f l S=.ok (l',S1)->S1.ws.length<=S.ws.length
 | 0,l,l',S,S1,h=>by cases h;exact Nat.le_refl _
 | f+1,l,l',S,S1,h=>by
  unfold symP at h
  split at h
  ·split at h
   ·cases h
   ·exact Nat.le_trans (qkk h) (qbv S)
  ·cases h;exact Nat.le_refl _
theorem qco {k:Int} {S S1:St} {x:Wd} (h:kv k S=.ok (x,S1)):S1.ws.length<=S.ws.length:=by
 unfold kv at h
 split at h
 ·cases h;exact qbv S
 ·cases h
theorem qkl {left:ByteArray} {S S1:St} (h:altP left S=.ok S1):S1.ws.length<=S.ws.length:=by
 unfold altP at h
 split at h
 ·cases h
 ·split at h
  ·cases h
  ·rename_i r S2 h2
   have l2:=qkk h2
   split at h
   ·split at h
    ·cases h
    ·rename_i x S3 h3
     cases h
     show S3.ws.length<=_
     exact Nat.le_trans (qco h3) (Nat.le_trans (qbv S2) l2)
   ·cases h
    exact l2
theorem qkm {left:ByteArray} {S:St} {g:Flt} (h:altP left S=.error g):g.1=1:=by
 unfold altP at h
 split at h
 ·cases h;rfl
 ·split at h
  ·rename_i g' h2
   cases h
   exact qfy h2
  ·split at h
   ·split at h
    ·rename_i g' h3
     cases h
     rw [(qbb h3).2]
     rfl
    ·cases h
   ·cases h
theorem qkn (w W:World) (rb:Nat) (h:RHd) (S:St) (qs:List (Ru × Option Addr × Nat)) (r:RD w W rb h S qs) :
  Calls Tryz.prog 124 #[.pointer (some ⟨rb,0,none⟩)] W fun e W'=>DidQ w W rb (jh S) e W':=by
 have HR:Hid (RD w (W.alloc (.cells #[.int .i64 0,.int .i64 0] 125)) rb h S qs):=r.step (qb _ _)
 have HWW:Hid (w.heap.size<=W.heap.size):=r.bel.size
 have hb1:(W.alloc (.cells #[.int .i64 0,.int .i64 0] 125)).heap[W.heap.size]?=some (.cells #[.int .i64 0,.int .i64 0] 125 (0,0)):=heap_alloc_new _ _
 have HK1:Hid (Keep W (W.alloc (.cells #[.int .i64 0,.int .i64 0] 125))):=qp (qb _ _)
 clear r
 go_enter Tryz.func124,Tryz.ntmps124
 go_upto_region 1 with fail
 generalize W.alloc (.cells #[.int .i64 0,.int .i64 0] 125)=W1 at HR hb1 HK1 ⊢
 obtain ⟨nb,hnb⟩:∃ nb,nb=W.heap.size:=⟨_,rfl⟩
 rw [<-hnb] at hb1 ⊢
 have HNB:Hid (W.heap.size<=nb):=Nat.le_of_eq hnb.symm
 have HBX:Hid (W1.heap[nb]?=some (.cells #[.int .i64 0,.int .i64 0] 125 (0,0))):=hb1
 clear hb1 hnb
 have HT:Hid (Calls Tryz.prog 143 #[.pointer (some ⟨rb,0,none⟩),.int .i64 1] W1 fun e W'=>e=.returned (.tuple #[wv (takeW 1 S),fv (jp 1 S)])/\Went w W1 rb (takeS 1 S) qs W'):=jx 1 (by decide) w W1 rb h S qs HR.out
 unfold wv fv at HT
 rcases ju 1 S with ⟨hk,hP,hW,hS,hF⟩ | ⟨hk,hP,hF,hS⟩
 ·rw [hW,hS,hF] at HT
  generalize hx:S.hd=x at *
  obtain ⟨xk,xt,xa⟩:=x
  simp only at HT
  have HP1:Hid (jh S=if S.next.hd.t=tCol then ji xt S.next.ws.length S.next.next else .error (zj S.next.hd)):=by
   show _=_
   unfold jh
   rw [hP]
  clear hk hP hW hS hF hx
  go_wp2_with fail
  refine HT.out.mono ?_
  rintro e W2 ⟨rfl,hw⟩
  obtain ⟨V,hV⟩:∃ V,V=(W2.alloc (.cells #[.int .i64 xk,.string xt,.int .i64 xa] 149)).alloc (.cells #[.int .i64 0,.int .i64 0] 125):=⟨_,rfl⟩
  have hbV:Below W2.heap.size W2 V:=by rw [hV];exact qd (qb _ _) (qb _ _)
  have hlb:V.heap[W2.heap.size]?=some (.cells #[.int .i64 xk,.string xt,.int .i64 xa] 149 (0,0)):=by
   rw [hV]
   exact qf (qb _ _) (heap_alloc_new _ _)
  have hkV:Keep W1 V:=(hw.keep ⟨_,HR.out.box⟩).trans (qp hbV)
  obtain ⟨h2,hrd2⟩:=hw.rd
  have HV:Hid (RD w V rb h2 S.next qs/\Keep W V/\V.heap[nb]?=some (.cells #[.int .i64 0,.int .i64 0] 125 (0,0))/\V.heap[W2.heap.size]?=some (.cells #[.int .i64 xk,.string xt,.int .i64 xa] 149 (0,0))):=⟨hrd2.step hbV,HK1.out.trans hkV,hkV.loc _ _ _ HBX.out (by decide) (by decide) (by decide) (by decide),hlb⟩
  clear hw hbV hlb hkV hrd2 HT
  go_upto_region 4 with fail
  rw [<-hV]
  clear hV
  obtain ⟨lb,hlb⟩:∃ lb,lb=W2.heap.size:=⟨_,rfl⟩
  rw [<-hlb] at HV ⊢
  clear hlb
  have HKP:Hid (∀ {X X':World},X.heap[nb]?=some (.cells #[.int .i64 0,.int .i64 0] 125 (0,0))/\X.heap[lb]?=some (.cells #[.int .i64 xk,.string xt,.int .i64 xa] 149 (0,0))->Keep X X'->X'.heap[nb]?=some (.cells #[.int .i64 0,.int .i64 0] 125 (0,0))/\X'.heap[lb]?=some (.cells #[.int .i64 xk,.string xt,.int .i64 xa] 149 (0,0))):=fun hv hk=>⟨hk.loc _ _ _ hv.1 (by decide) (by decide) (by decide) (by decide),hk.loc _ _ _ hv.2 (by decide) (by decide) (by decide) (by decide)⟩
  by_cases hc:S.next.hd.t=tCol
  ·have HSK:Hid (Calls Tryz.prog 121 #[.pointer (some ⟨rb,0,none⟩),.string ⟨#[58]⟩] V fun e W'=>e=.returned (.bool true)/\(∃ h',RD w W' rb h' S.next.next qs)/\Keep V W'):=kk ⟨#[58]⟩ xu w V rb h2 S.next qs HV.out.1 hc
   obtain ⟨R,hR⟩:∃ R,ji xt S.next.ws.length S.next.next=R:=⟨_,rfl⟩
   have HP2:Hid (jh S=R):=by
    show _=_
    have:=HP1.out
    rw [if_pos hc,hR] at this
    exact this
   have HR0:Hid (ji xt S.next.ws.length S.next.next=R):=hR
   have HL0:Hid (S.next.next.ws.length<=S.next.ws.length):=qbv _
   clear hc HP1 hR
   go_wp2_with fail
   refine HSK.out.mono ?_
   rintro e V2 ⟨rfl,hrd,hk⟩
   have HV2:Hid ((∃ h',RD w V2 rb h' S.next.next qs)/\Keep W V2/\V2.heap[nb]?=some (.cells #[.int .i64 0,.int .i64 0] 125 (0,0))/\V2.heap[lb]?=some (.cells #[.int .i64 xk,.string xt,.int .i64 xa] 149 (0,0))):=⟨hrd,HV.out.2.1.trans hk,HKP.out HV.out.2.2 hk⟩
   clear hrd hk HSK HV
   obtain ⟨f0,hf0⟩:∃ f0,f0=S.next.ws.length:=⟨_,rfl⟩
   rw [<-hf0] at HR0 HL0
   clear hf0
   go_wp2_with fail
   go_loopg [5] f0 (fun kx s5 wr=>∃ f,f<=kx/\Hid (∃ S1,S1.ws.length<=f/\(∃ h' qs',RD w wr rb h' S1 qs')/\Keep W wr/\wr.heap[nb]?=some (.cells #[.int .i64 0,.int .i64 0] 125 (0,0))/\wr.heap[lb]?=some (.cells #[.int .i64 xk,.string xt,.int .i64 xa] 149 (0,0))/\ji xt f S1=R))
   case atStart =>
    refine ⟨f0,Nat.le_refl _,?_⟩
    obtain ⟨h',hrd⟩:=HV2.out.1
    exact (⟨S.next.next,HL0.out,⟨h',qs,hrd⟩,HV2.out.2.1,HV2.out.2.2.1,HV2.out.2.2.2,HR0.out⟩:∃ S1,S1.ws.length<=f0/\(∃ h' qs',RD w V2 rb h' S1 qs')/\Keep W V2/\V2.heap[nb]?=some (.cells #[.int .i64 0,.int .i64 0] 125 (0,0))/\V2.heap[lb]?=some (.cells #[.int .i64 xk,.string xt,.int .i64 xa] 149 (0,0))/\ji xt f0 S1=R)
   case round =>
    obtain ⟨f,hfk,J⟩:=hrel
    obtain ⟨S1,hlen,⟨h1,qs1,hrd⟩,hkp,hnb',hlb',hN⟩:=J.out
    clear J HR0 HL0 HV2
    obtain ⟨f',rfl⟩:∃ f',f=f'+1:=⟨f - 1,by have:=hrd.ok.ends.pos;omega⟩
    have HA:Hid (Calls Tryz.prog 144 #[.pointer (some ⟨rb,0,none⟩),.string xt] wr fun e W'=>DidQ w wr rb (altP xt S1) e W'):=qlo xt w wr rb h1 S1 qs1 hrd
    have HJ:Hid (S1.ws.length<=f'+1/\Keep W wr/\wr.heap[nb]?=some (.cells #[.int .i64 0,.int .i64 0] 125 (0,0))/\wr.heap[lb]?=some (.cells #[.int .i64 xk,.string xt,.int .i64 xa] 149 (0,0))/\ji xt (f'+1) S1=R):=⟨hlen,hkp,hnb',hlb',hN⟩
    obtain ⟨-,p1,-⟩:=yy hlb'
    clear hlen hrd hkp hnb' hlb' hN
    go_wp2_with fail
    refine HA.out.mono ?_
    intro e W3 hD
    obtain ⟨h3,S3,qs3,rfl,hrd3,hkp3,hS3⟩:=hD
    have hbx:=HKP.out ⟨HJ.out.2.2.1,HJ.out.2.2.2.1⟩ hkp3
    have HD3:Hid (RD w W3 rb h3 S3 qs3/\Keep W W3/\W3.heap[nb]?=some (.cells #[.int .i64 0,.int .i64 0] 125 (0,0))/\W3.heap[lb]?=some (.cells #[.int .i64 xk,.string xt,.int .i64 xa] 149 (0,0))):=⟨hrd3,HJ.out.2.1.trans hkp3,hbx⟩
    clear hrd3 hkp3 hbx HA p1
    cases hA:altP xt S1 with
    | error g =>
     have hg:=qkm hA
     obtain ⟨g1,g2⟩:=g
     simp only at hg
     subst hg
     have HF:Hid (R=.error (1,g2)):=by
      show _=_
      rw [<-HJ.out.2.2.2.2]
      conv=>lhs;unfold ji
      rw [hA]
     have t2:=qf (qb W3 (.cells #[.int .i64 1,.int .i64 g2] 125)) HD3.out.2.2.1
     obtain ⟨q3,q4,z3,z4⟩:=zg t2
     have HL:Hid (Loc (W3.alloc (.cells #[.int .i64 1,.int .i64 g2] 125)) nb 125):=⟨_,t2⟩
     clear hA hS3 t2
     unfold kf fv
     simp only
     go_wp2_with fail
     refine bodyPost_ret (v:=.agg #[.int .i64 1,.int .i64 g2]) (by simp [results,Tryz.results124,go_sem, *]) rfl ?_
     rw [HP2.out]
     exact (zf (HD3.out.1.step (qb _ _)) (HD3.out.2.1.trans (qp (qb _ _))) HL.out HNB.out HWW.out (by rw [HF.out];rfl) (fun S1 h=>by rw [HF.out] at h;cases h)).q
    | ok S4 =>
     have e3:S3=S4:=hS3 S4 hA
     subst e3
     have HNX:Hid (R=if S3.hd.t=qmn then .ok S3.next else if S3.hd.t=tBar then ji xt f' S3.next else .error (zj S3.hd)):=by
      show _=_
      rw [<-HJ.out.2.2.2.2]
      conv=>lhs;unfold ji
      rw [hA]
     have HLN:Hid (S3.ws.length<=f'+1):=Nat.le_trans (qkl hA) HJ.out.1
     clear hA hS3
     unfold kf fv
     simp only
     have hbA:=qb W3 (.cells #[.int .i64 0,.int .i64 0] 125)
     have HX0:Hid (RD w (W3.alloc (.cells #[.int .i64 0,.int .i64 0] 125)) rb h3 S3 qs3/\Keep W (W3.alloc (.cells #[.int .i64 0,.int .i64 0] 125))/\(W3.alloc (.cells #[.int .i64 0,.int .i64 0] 125)).heap[nb]?=some (.cells #[.int .i64 0,.int .i64 0] 125 (0,0))/\(W3.alloc (.cells #[.int .i64 0,.int .i64 0] 125)).heap[lb]?=some (.cells #[.int .i64 xk,.string xt,.int .i64 xa] 149 (0,0))):=⟨HD3.out.1.step hbA,HD3.out.2.1.trans (qp hbA),qf hbA HD3.out.2.2.1,qf hbA HD3.out.2.2.2⟩
     clear hbA
     by_cases hs:S3.hd.t=qmn
     ·have HSK:Hid (Calls Tryz.prog 121 #[.pointer (some ⟨rb,0,none⟩),.string ⟨#[59]⟩] (W3.alloc (.cells #[.int .i64 0,.int .i64 0] 125)) fun e W'=>e=.returned (.bool true)/\(∃ h',RD w W' rb h' S3.next qs3)/\Keep (W3.alloc (.cells #[.int .i64 0,.int .i64 0] 125)) W'):=kk ⟨#[59]⟩ xu w _ rb h3 S3 qs3 HX0.out.1 hs
      have HF:Hid (R=.ok S3.next):=by
       show _=_
       have:=HNX.out
       rw [if_pos hs] at this
       exact this
      clear hs HNX
      go_wp2_with fail
      refine HSK.out.mono ?_
      rintro e Y ⟨rfl,hrd,hk⟩
      have HY:Hid ((∃ h',RD w Y rb h' S3.next qs3)/\Keep W Y/\Y.heap[nb]?=some (.cells #[.int .i64 0,.int .i64 0] 125 (0,0))):=⟨hrd,HX0.out.2.1.trans hk,(HKP.out HX0.out.2.2 hk).1⟩
      clear hrd hk HSK
      obtain ⟨q3,q4,z3,z4⟩:=zg HY.out.2.2
      go_wp2_with fail
      refine bodyPost_ret (v:=.agg #[.int .i64 0,.int .i64 0]) (by simp [results,Tryz.results124,go_sem, *]) rfl ?_
      rw [HP2.out]
      obtain ⟨h',hrd⟩:=HY.out.1
      exact (zf hrd HY.out.2.1 ⟨_,HY.out.2.2⟩ HNB.out HWW.out (by rw [HF.out];rfl) (fun S1 h=>by rw [HF.out] at h;cases h;rfl)).q
     ·have HSK:Hid (Calls Tryz.prog 121 #[.pointer (some ⟨rb,0,none⟩),.string ⟨#[59]⟩] (W3.alloc (.cells #[.int .i64 0,.int .i64 0] 125)) fun e W'=>e=.returned (.bool false)/\(∃ h',RD w W' rb h' S3 qs3)/\Keep (W3.alloc (.cells #[.int .i64 0,.int .i64 0] 125)) W'):=kq ⟨#[59]⟩ xu w _ rb h3 S3 qs3 HX0.out.1 hs
      have HNY:Hid (R=if S3.hd.t=tBar then ji xt f' S3.next else .error (zj S3.hd)):=by
       show _=_
       have:=HNX.out
       rw [if_neg hs] at this
       exact this
      clear hs HNX
      go_wp2_with fail
      refine HSK.out.mono ?_
      rintro e Y ⟨rfl,hrd,hk⟩
      have HY:Hid ((∃ h',RD w Y rb h' S3 qs3)/\Keep W Y/\Y.heap[nb]?=some (.cells #[.int .i64 0,.int .i64 0] 125 (0,0))/\Y.heap[lb]?=some (.cells #[.int .i64 xk,.string xt,.int .i64 xa] 149 (0,0))):=⟨hrd,HX0.out.2.1.trans hk,HKP.out HX0.out.2.2 hk⟩
      clear hrd hk HSK HX0
      obtain ⟨h4,hrd4⟩:=HY.out.1
      by_cases hbr:S3.hd.t=tBar
      ·have HSK:Hid (Calls Tryz.prog 121 #[.pointer (some ⟨rb,0,none⟩),.string ⟨#[124]⟩] Y fun e W'=>e=.returned (.bool true)/\(∃ h',RD w W' rb h' S3.next qs3)/\Keep Y W'):=kk ⟨#[124]⟩ xu w Y rb h4 S3 qs3 hrd4 hbr
       have HF:Hid (ji xt f' S3.next=R):=by
        show _=_
        have:=HNY.out
        rw [if_pos hbr] at this
        exact this.symm
       have HLX:Hid (S3.next.ws.length<=f'):=by
        have h1:=j4 hrd4.ok
        have h2:=HLN.out
        show _<=_
        omega
       clear hbr HNY hrd4
       go_wp2_with fail
       refine HSK.out.mono ?_
       rintro e Z ⟨rfl,hrd,hk⟩
       have HZ:Hid (∃ S1,S1.ws.length<=f'/\(∃ h' qs',RD w Z rb h' S1 qs')/\Keep W Z/\Z.heap[nb]?=some (.cells #[.int .i64 0,.int .i64 0] 125 (0,0))/\Z.heap[lb]?=some (.cells #[.int .i64 xk,.string xt,.int .i64 xa] 149 (0,0))/\ji xt f' S1=R):=by
        obtain ⟨h',hrd'⟩:=hrd
        have hb:=HKP.out HY.out.2.2 hk
        exact ⟨S3.next,HLX.out,⟨h',qs3,hrd'⟩,HY.out.2.1.trans hk,hb.1,hb.2,HF.out⟩
       clear hrd hk HSK
       go_wp2_with fail
       go_roundg f'
       case measure=>omega
       case rel=>exact ⟨f',Nat.le_refl _,HZ⟩
      ·have HSK:Hid (Calls Tryz.prog 121 #[.pointer (some ⟨rb,0,none⟩),.string ⟨#[124]⟩] Y fun e W'=>e=.returned (.bool false)/\(∃ h',RD w W' rb h' S3 qs3)/\Keep Y W'):=kq ⟨#[124]⟩ xu w Y rb h4 S3 qs3 hrd4 hbr
       have HF:Hid (R=.error (zj S3.hd)):=by
        show _=_
        have:=HNY.out
        rw [if_neg hbr] at this
        exact this
       clear hbr HNY hrd4
       go_wp2_with fail
       refine HSK.out.mono ?_
       rintro e Z ⟨rfl,hrd,hk⟩
       have HZ:Hid ((∃ h',RD w Z rb h' S3 qs3)/\Keep W Z/\Z.heap[nb]?=some (.cells #[.int .i64 0,.int .i64 0] 125 (0,0))):=⟨hrd,HY.out.2.1.trans hk,(HKP.out HY.out.2.2 hk).1⟩
       clear hrd hk HSK HY
       obtain ⟨h5,hrd5⟩:=HZ.out.1
       have HWD:Hid (Calls Tryz.prog 123 #[.pointer (some ⟨rb,0,none⟩)] Z fun e W'=>e=.returned (wv S3.hd)/\Below Z.heap.size Z W'):=kp w Z rb h5 S3 qs3 hrd5
       clear hrd5
       unfold wv at HWD
       unfold zj at HF
       generalize S3.hd=y at *
       obtain ⟨yk,yt,ya⟩:=y
       simp only at HWD HF
       go_wp2_with fail
       refine HWD.out.mono ?_
       rintro e Z2 ⟨rfl,hB⟩
       have HB2:Hid (Below Z.heap.size Z Z2):=hB
       clear hB HWD
       go_wp2_with fail
       refine (jo ⟨yk,yt,ya⟩ _).mono ?_
       rintro e Z3 ⟨rfl,hB⟩
       have HB3:Hid (Below Z.heap.size Z Z3):=qd HB2.out hB
       clear hB
       obtain ⟨q3,q4,z3,z4⟩:=zg (qf HB3.out HZ.out.2.2)
       unfold fv zj
       simp only
       go_wp2_with fail
       refine bodyPost_ret (v:=.agg #[.int .i64 1,.int .i64 ya]) (by simp [results,Tryz.results124,go_sem, *]) rfl ?_
       rw [HP2.out]
       obtain ⟨h5,hrd5⟩:=HZ.out.1
       exact (zf (hrd5.step HB3.out) (HZ.out.2.1.trans (qp HB3.out)) ⟨_,qf HB3.out HZ.out.2.2⟩ HNB.out HWW.out (by rw [HF.out];rfl) (fun S1 h=>by rw [HF.out] at h;cases h)).q
  ·have HSK:Hid (Calls Tryz.prog 121 #[.pointer (some ⟨rb,0,none⟩),.string ⟨#[58]⟩] V fun e W'=>e=.returned (.bool false)/\(∃ h',RD w W' rb h' S.next qs)/\Keep V W'):=kq ⟨#[58]⟩ xu w V rb h2 S.next qs HV.out.1 hc
   have HF:Hid (jh S=.error (zj S.next.hd)):=by
    show _=_
    have:=HP1.out
    rw [if_neg hc] at this
    exact this
   clear hc HP1
   go_wp2_with fail
   refine HSK.out.mono ?_
   rintro e Z ⟨rfl,hrd,hk⟩
   have HZ:Hid ((∃ h',RD w Z rb h' S.next qs)/\Keep W Z/\Z.heap[nb]?=some (.cells #[.int .i64 0,.int .i64 0] 125 (0,0))):=⟨hrd,HV.out.2.1.trans hk,(HKP.out HV.out.2.2 hk).1⟩
   clear hrd hk HSK HV
   obtain ⟨h5,hrd5⟩:=HZ.out.1
   have HWD:Hid (Calls Tryz.prog 123 #[.pointer (some ⟨rb,0,none⟩)] Z fun e W'=>e=.returned (wv S.next.hd)/\Below Z.heap.size Z W'):=kp w Z rb h5 S.next qs hrd5
   clear hrd5
   unfold wv at HWD
   unfold zj at HF
   generalize S.next.hd=y at *
   obtain ⟨yk,yt,ya⟩:=y
   simp only at HWD HF
   go_wp2_with fail
   refine HWD.out.mono ?_
   rintro e Z2 ⟨rfl,hB⟩
   have HB2:Hid (Below Z.heap.size Z Z2):=hB
   clear hB HWD
   go_wp2_with fail
   refine (jo ⟨yk,yt,ya⟩ _).mono ?_
   rintro e Z3 ⟨rfl,hB⟩
   have HB3:Hid (Below Z.heap.size Z Z3):=qd HB2.out hB
   clear hB
   obtain ⟨q3,q4,z3,z4⟩:=zg (qf HB3.out HZ.out.2.2)
   unfold fv zj
   simp only
   go_wp2_with fail
   refine bodyPost_ret (v:=.agg #[.int .i64 1,.int .i64 ya]) (by simp [results,Tryz.results124,go_sem, *]) rfl ?_
   obtain ⟨h5,hrd5⟩:=HZ.out.1
   exact (zf (hrd5.step HB3.out) (HZ.out.2.1.trans (qp HB3.out)) ⟨_,qf HB3.out HZ.out.2.2⟩ HNB.out HWW.out (by rw [HF.out];rfl) (fun S1 h=>by rw [HF.out] at h;cases h)).q
 ·have HP:Hid (jh S=.error (zj S.hd)):=by
   show _=_
   unfold jh
   rw [hP]
  rw [hF,hS] at HT
  unfold zj at HT HP
  generalize takeW 1 S=y at HT
  generalize S.hd.a=fa at *
  obtain ⟨yk,yt,ya⟩:=y
  simp only at HT
  clear hk hP hF hS
  go_wp2_with fail
  refine HT.out.mono ?_
  rintro e V3 ⟨rfl,hw⟩
  have hb3:Below V3.heap.size V3 ((V3.alloc (.cells #[.int .i64 yk,.string yt,.int .i64 ya] 149)).alloc (.cells #[.int .i64 1,.int .i64 fa] 125)):=qd (qb _ _) (qb _ _)
  have hkV:=hw.keep ⟨_,HR.out.box⟩
  have t2:=qf hb3 (hkV.loc _ _ _ HBX.out (by decide) (by decide) (by decide) (by decide))
  obtain ⟨q3,q4,z3,z4⟩:=zg t2
  have HD:Hid ((∃ h',RD w ((V3.alloc (.cells #[.int .i64 yk,.string yt,.int .i64 ya] 149)).alloc (.cells #[.int .i64 1,.int .i64 fa] 125)) rb h' S qs)/\Keep W ((V3.alloc (.cells #[.int .i64 yk,.string yt,.int .i64 ya] 149)).alloc (.cells #[.int .i64 1,.int .i64 fa] 125))/\Loc ((V3.alloc (.cells #[.int .i64 yk,.string yt,.int .i64 ya] 149)).alloc (.cells #[.int .i64 1,.int .i64 fa] 125)) nb 125):=⟨(by
   obtain ⟨h3,r3⟩:=hw.rd
   exact ⟨h3,r3.step hb3⟩),(HK1.out.trans hkV).trans (qp hb3),⟨_,t2⟩⟩
  clear hw hb3 t2 HT hkV
  go_wp2_with fail
  refine bodyPost_ret (v:=.agg #[.int .i64 1,.int .i64 fa]) (by simp [results,Tryz.results124,go_sem, *]) rfl ?_
  obtain ⟨h3,r3⟩:=HD.out.1
  exact (zf r3 HD.out.2.1 HD.out.2.2 HNB.out HWW.out (by rw [HP.out];rfl) (fun S1 h=>by rw [HP.out] at h;cases h)).q
theorem qme {x:Wd} {S S1:St} {i:Nat} (h:tokP x S=.ok (i,S1)):S1.ws=S.ws:=by
 unfold tokP at h
 split at h
 ·cases h;rfl
 ·split at h
  ·cases h
  ·cases h;rfl
theorem qqk {x:Wd} {S S1:St} (h:ki x S=.ok S1):S1.ws=S.ws:=by
 unfold ki at h
 split at h
 ·cases h
 ·rename_i i S2 h2
  split at h
  ·cases h
  ·cases h
   have e:=qme h2
   exact e
theorem qru {l a:Int} {x:Wd} {S S1:St} (h:levP l a x S=.ok S1):S1.ws=S.ws:=by
 unfold levP at h
 split at h
 ·cases h
 ·rename_i i S2 h2
  split at h
  ·cases h
  ·cases h
   have e:=qme h2
   exact e
theorem qdp {say:Wd->St->Except Flt St} (hs:∀ x S S1,say x S=.ok S1->S1.ws=S.ws):∀ {f:Nat} {S S1:St},zt say f S=.ok S1->S1.ws.length<=S.ws.length
 | 0,S,S1,h=>by cases h;exact Nat.le_refl _
 | f+1,S,S1,h=>by
  unfold zt at h
  split at h
  ·cases h
  ·rename_i x S2 h2
   have l2:=qco h2
   split at h
   ·cases h
   ·rename_i S3 h3
    have e3:=hs x S2 S3 h3
    split at h
    ·have l3:=qdp hs h
     rw [e3] at l3
     omega
    ·cases h
     rw [e3]
     exact l2
theorem qdq {say:Wd->St->Except Flt St} (hs:∀ x S g,say x S=.error g->g.1≠0):∀ {f:Nat} {S:St} {g:Flt},zt say f S=.error g->g.1≠0
 | 0,S,g,h=>by cases h
 | f+1,S,g,h=>by
  unfold zt at h
  split at h
  ·rename_i g' h2
   cases h
   rw [(qbb h2).2]
   show (1:Int)≠0
   decide
  ·rename_i x S2 h2
   split at h
   ·rename_i g' h3
    cases h
    exact hs x S2 _ h3
   ·split at h
    ·exact qdq hs h
    ·cases h
theorem qdr {x:Wd} {a:Int} {S S1:St} (h:kw x a S=.ok S1):S1.ws.length<=S.ws.length:=by
 unfold kw at h
 split at h
 ·cases h
 ·have e:=qdp (fun _ _ _ h=>qru h) h
  exact e
theorem qds {x:Wd} {a:Int} {S:St} {g:Flt} (h:kw x a S=.error g):g.1≠0:=by
 unfold kw at h
 split at h
 ·cases h
  show (1:Int)≠0
  decide
 ·exact qdq (fun _ _ _ h=>qkh h) h
theorem qnb {x:Wd} {S S1:St} (h:vo x S=.ok S1):S1.ws.length<=S.ws.length:=by
 unfold vo at h
 split at h
 ·cases h
 ·split at h
  ·cases h
  ·rename_i y S2 h2
   cases h
   have e:=qco h2
   exact e
theorem qnc {x:Wd} {S:St} {g:Flt} (h:vo x S=.error g):g.1≠0:=by
 unfold vo at h
 split at h
 ·cases h
  show (7:Int)≠0
  decide
 ·split at h
  ·rename_i g' h2
   cases h
   rw [(qbb h2).2]
   show (1:Int)≠0
   decide
  ·cases h
theorem qlp {x:Wd} {S S1:St} (h:jg x S=.ok S1):S1.ws.length<=S.ws.length:=by
 unfold jg at h
 split at h
 ·cases h
 ·split at h
  ·cases h
  ·rename_i y S2 h2
   cases h
   have e:=qco h2
   exact e
theorem qlq {x:Wd} {S:St} {g:Flt} (h:jg x S=.error g):g.1≠0:=by
 unfold jg at h
 split at h
 ·cases h
  show (7:Int)≠0
  decide
 ·split at h
  ·rename_i g' h2
   cases h
   rw [(qbb h2).2]
   show (1:Int)≠0
   decide
  ·cases h
theorem qou {S S1:St} (h:zm S=.ok S1):S1.ws.length<=S.next.ws.length:=by
 unfold zm at h
 split at h
 ·exact qdp (fun _ _ _ h=>qqk h) h
 ·split at h
  ·exact qdr h
  ·split at h
   ·exact qdr h
   ·split at h
    ·exact qdr h
    ·split at h
     ·exact qnb h
     ·split at h
      ·exact qlp h
      ·cases h
theorem qig {S:St} {g:Flt} (h:zm S=.error g):g.1≠0:=by
 unfold zm at h
 split at h
 ·exact qdq (fun _ _ _ h=>qie h) h
 ·split at h
  ·exact qds h
  ·split at h
   ·exact qds h
   ·split at h
    ·exact qds h
    ·split at h
     ·exact qnc h
     ·split at h
      ·exact qlq h
      ·cases h
       show (1:Int)≠0
       decide
theorem qih {left:ByteArray}:∀ {f:Nat} {S S1:St},ji left f S=.ok S1->S1.ws.length<=S.ws.length
 | 0,S,S1,h=>by cases h;exact Nat.le_refl _
 | f+1,S,S1,h=>by
  unfold ji at h
  split at h
  ·cases h
  ·rename_i S2 h2
   have l2:=qkl h2
   have l3:=qbv S2
   split at h
   ·cases h
    omega
   ·split at h
    ·have l4:=qih h
     omega
    ·cases h
theorem qii {left:ByteArray}:∀ {f:Nat} {S:St} {g:Flt},ji left f S=.error g->g.1≠0
 | 0,S,g,h=>by cases h
 | f+1,S,g,h=>by
  unfold ji at h
  split at h
  ·rename_i g' h2
   cases h
   rw [qkm h2]
   decide
  ·split at h
   ·cases h
   ·split at h
    ·exact qii h
    ·cases h
     show (1:Int)≠0
     decide
theorem qnd {S S1:St} (h:jh S=.ok S1):S1.ws.length<=S.next.ws.length:=by
 unfold jh at h
 split at h
 ·cases h
 ·rename_i x S2 h2
  unfold kv at h2
  split at h2
  ·cases h2
   split at h
   ·exact Nat.le_trans (qih h) (qbv _)
   ·cases h
  ·cases h2
theorem qgy {S:St} {g:Flt} (h:jh S=.error g):g.1≠0:=by
 unfold jh at h
 split at h
 ·rename_i g' h2
  cases h
  rw [(qbb h2).2]
  show (1:Int)≠0
  decide
 ·split at h
  ·exact qii h
  ·cases h
   show (1:Int)≠0
   decide
def qij (R:Except Flt St):Except Flt St:=match R with | .error e=>.error e | .ok S1=>x9 S1.ws.length S1
theorem qql (S:St):vh S=qij (x8 S.ws.length S):=rfl
theorem qep (w W:World) (rb:Nat) (h:RHd) (S:St) (qs:List (Ru × Option Addr × Nat)) (r:RD w W rb h S qs) :
  Calls Tryz.prog 109 #[.pointer (some ⟨rb,0,none⟩)] W fun e W'=>DidQ w W rb (vh S) e W':=by
 have HR:Hid (RD w (W.alloc (.cells #[.int .i64 0,.int .i64 0] 125)) rb h S qs):=r.step (qb _ _)
 have HWW:Hid (w.heap.size<=W.heap.size):=r.bel.size
 have hb1:(W.alloc (.cells #[.int .i64 0,.int .i64 0] 125)).heap[W.heap.size]?=some (.cells #[.int .i64 0,.int .i64 0] 125 (0,0)):=heap_alloc_new _ _
 have HK1:Hid (Keep W (W.alloc (.cells #[.int .i64 0,.int .i64 0] 125))):=qp (qb _ _)
 obtain ⟨R1,hR1⟩:∃ R1,x8 S.ws.length S=R1:=⟨_,rfl⟩
 have HR1:Hid (x8 S.ws.length S=R1):=hR1
 have HRD:Hid (vh S=qij R1):=by
  show _=_
  rw [qql,hR1]
 obtain ⟨f0,hf0⟩:∃ f0,f0=S.ws.length:=⟨_,rfl⟩
 have HF0:Hid (S.ws.length<=f0):=Nat.le_of_eq hf0.symm
 rw [<-hf0] at HR1
 clear r hR1 hf0
 go_enter Tryz.func109,Tryz.ntmps109
 go_upto_block 0 with fail
 generalize W.alloc (.cells #[.int .i64 0,.int .i64 0] 125)=W1 at HR hb1 HK1 ⊢
 obtain ⟨nb,hnb⟩:∃ nb,nb=W.heap.size:=⟨_,rfl⟩
 rw [<-hnb] at hb1 ⊢
 have HNB:Hid (W.heap.size<=nb):=Nat.le_of_eq hnb.symm
 have HBX:Hid (W1.heap[nb]?=some (.cells #[.int .i64 0,.int .i64 0] 125 (0,0))):=hb1
 have HKP:Hid (∀ {X X':World},X.heap[nb]?=some (.cells #[.int .i64 0,.int .i64 0] 125 (0,0))->Keep X X'->X'.heap[nb]?=some (.cells #[.int .i64 0,.int .i64 0] 125 (0,0))):=fun hv hk=>hk.loc _ _ _ hv (by decide) (by decide) (by decide) (by decide)
 clear hb1 hnb
 go_wp2_with fail
 go_loopg [3] f0 (fun kx s3 wr=>∃ f,f<=kx/\Hid (∃ S1,S1.ws.length<=f/\(∃ h' qs',RD w wr rb h' S1 qs')/\Keep W wr/\wr.heap[nb]?=some (.cells #[.int .i64 0,.int .i64 0] 125 (0,0))/\x8 f S1=R1))
 case atStart=>exact ⟨f0,Nat.le_refl _,(⟨S,HF0.out,⟨h,qs,HR.out⟩,HK1.out,HBX.out,HR1.out⟩:∃ S1,S1.ws.length<=f0/\(∃ h' qs',RD w W1 rb h' S1 qs')/\Keep W W1/\W1.heap[nb]?=some (.cells #[.int .i64 0,.int .i64 0] 125 (0,0))/\x8 f0 S1=R1)⟩
 case round =>
  obtain ⟨f,hfk,J⟩:=hrel
  obtain ⟨S1,hlen,⟨h1,qs1,hrd⟩,hkp,hnb',hN⟩:=J.out
  clear J HR HR1 HF0 HBX HK1
  obtain ⟨f',rfl⟩:∃ f',f=f'+1:=⟨f - 1,by have:=hrd.ok.ends.pos;omega⟩
  have HJ:Hid (S1.ws.length<=f'+1/\Keep W wr/\wr.heap[nb]?=some (.cells #[.int .i64 0,.int .i64 0] 125 (0,0))/\RD w wr rb h1 S1 qs1/\x8 (f'+1) S1=R1):=⟨hlen,hkp,hnb',hrd,hN⟩
  clear hlen hkp hnb' hrd hN
  by_cases h2:S1.hd.t=tTwo
  ·have HSK:Hid (Calls Tryz.prog 121 #[.pointer (some ⟨rb,0,none⟩),.string ⟨#[37,37]⟩] wr fun e W'=>e=.returned (.bool true)/\(∃ h',RD w W' rb h' S1.next qs1)/\Keep wr W'):=kk ⟨#[37,37]⟩ xu w wr rb h1 S1 qs1 HJ.out.2.2.2.1 h2
   have HRP:Hid (vh S=x9 S1.next.ws.length S1.next):=by
    show _=_
    rw [HRD.out,<-HJ.out.2.2.2.2]
    have e:x8 (f'+1) S1=.ok S1.next:=by
     unfold x8
     rw [if_pos h2]
    rw [e]
    rfl
   clear h2 HRD
   go_wp2_with fail
   refine HSK.out.mono ?_
   rintro e V ⟨rfl,hrd,hk⟩
   have HV:Hid ((∃ h' qs',RD w V rb h' S1.next qs')/\Keep W V/\V.heap[nb]?=some (.cells #[.int .i64 0,.int .i64 0] 125 (0,0))):=⟨(by obtain ⟨h',r'⟩:=hrd;exact ⟨h',qs1,r'⟩),HJ.out.2.1.trans hk,HKP.out HJ.out.2.2.1 hk⟩
   clear hrd hk HSK HJ
   obtain ⟨R,hR⟩:∃ R,x9 S1.next.ws.length S1.next=R:=⟨_,rfl⟩
   have HR2:Hid (x9 S1.next.ws.length S1.next=R):=hR
   have HRR:Hid (vh S=R):=by show _=_;rw [HRP.out,hR]
   obtain ⟨f1,hf1⟩:∃ f1,f1=S1.next.ws.length:=⟨_,rfl⟩
   have HF1:Hid (S1.next.ws.length<=f1):=Nat.le_of_eq hf1.symm
   rw [<-hf1] at HR2
   clear hR hf1 HRP
   go_wp2_with fail
   go_loopg [4] f1 (fun kx s4 wr=>∃ f,f<=kx/\Hid (∃ S1,S1.ws.length<=f/\(∃ h' qs',RD w wr rb h' S1 qs')/\Keep W wr/\wr.heap[nb]?=some (.cells #[.int .i64 0,.int .i64 0] 125 (0,0))/\x9 f S1=R))
   case atStart=>exact ⟨f1,Nat.le_refl _,(⟨S1.next,HF1.out,HV.out.1,HV.out.2.1,HV.out.2.2,HR2.out⟩:∃ S1,S1.ws.length<=f1/\(∃ h' qs',RD w V rb h' S1 qs')/\Keep W V/\V.heap[nb]?=some (.cells #[.int .i64 0,.int .i64 0] 125 (0,0))/\x9 f1 S1=R)⟩
   case round =>
    obtain ⟨f,hfk2,J⟩:=hrel
    obtain ⟨S2,hlen,⟨h2,qs2,hrd⟩,hkp,hnb',hN⟩:=J.out
    clear J HR2 HF1 HV
    obtain ⟨f2,rfl⟩:∃ f2,f=f2+1:=⟨f - 1,by have:=hrd.ok.ends.pos;omega⟩
    have HJ:Hid (S2.ws.length<=f2+1/\Keep W wr/\wr.heap[nb]?=some (.cells #[.int .i64 0,.int .i64 0] 125 (0,0))/\RD w wr rb h2 S2 qs2/\x9 (f2+1) S2=R):=⟨hlen,hkp,hnb',hrd,hN⟩
    have HWD:Hid (Calls Tryz.prog 123 #[.pointer (some ⟨rb,0,none⟩)] wr fun e W'=>e=.returned (wv S2.hd)/\Below wr.heap.size wr W'):=kp w wr rb h2 S2 qs2 hrd
    clear hlen hkp hnb' hrd hN
    unfold wv at HWD
    generalize hy:S2.hd=y at *
    obtain ⟨yk,yt,ya⟩:=y
    simp only at HWD
    have HY:Hid (S2.hd=⟨yk,yt,ya⟩):=hy
    clear hy
    have hfw:=qf9 yk ya yt
    go_wp2_with fail
    refine HWD.out.mono ?_
    rintro e V2 ⟨rfl,hB⟩
    have HV2:Hid (RD w V2 rb h2 S2 qs2/\Keep W V2/\V2.heap[nb]?=some (.cells #[.int .i64 0,.int .i64 0] 125 (0,0))):=⟨HJ.out.2.2.2.1.step hB,HJ.out.2.1.trans (qp hB),qf hB HJ.out.2.2.1⟩
    clear hB HWD
    by_cases h5:yk=5
    ·have hq:(yk != 5)=false:=by simp [h5]
     have HF:Hid (R=.ok S2):=by
      show _=_
      rw [<-HJ.out.2.2.2.2]
      conv=>lhs;unfold x9
      rw [if_pos (by rw [HY.out];exact h5)]
     clear h5
     obtain ⟨q3,q4,z3,z4⟩:=zg HV2.out.2.2
     go_wp2_with fail
     refine bodyPost_ret (v:=.agg #[.int .i64 0,.int .i64 0]) (by simp [results,Tryz.results109,go_sem, *]) rfl ?_
     rw [HRR.out]
     exact (zf HV2.out.1 HV2.out.2.1 ⟨_,HV2.out.2.2⟩ HNB.out HWW.out (by rw [HF.out];rfl) (fun S1 h=>by rw [HF.out] at h;cases h;rfl)).q
    ·have hq:(yk != 5)=true:=by simp [h5]
     have HNX:Hid (R=(match jh S2 with | .error e=>.error e | .ok S1=>x9 f2 S1)):=by
      show _=_
      rw [<-HJ.out.2.2.2.2]
      conv=>lhs;unfold x9
      rw [if_neg (by rw [HY.out];exact h5)]
      rfl
     clear h5
     have HC:Hid (Calls Tryz.prog 124 #[.pointer (some ⟨rb,0,none⟩)] V2 fun e W'=>DidQ w V2 rb (jh S2) e W'):=qkn w V2 rb h2 S2 qs2 HV2.out.1
     go_wp2_with fail
     refine HC.out.mono ?_
     intro e V3 hD
     obtain ⟨h3,S3,qs3,rfl,hrd3,hkp3,hS3⟩:=hD
     have HD:Hid (RD w V3 rb h3 S3 qs3/\Keep W V3/\V3.heap[nb]?=some (.cells #[.int .i64 0,.int .i64 0] 125 (0,0))):=⟨hrd3,HV2.out.2.1.trans hkp3,HKP.out HV2.out.2.2 hkp3⟩
     clear hrd3 hkp3 HC
     cases hA:jh S2 with
     | error g =>
      have hg:=qgy hA
      obtain ⟨g1,g2⟩:=g
      have hg':(g1 != 0)=true:=by simpa using hg
      have HF:Hid (R=.error (g1,g2)):=by show _=_;rw [HNX.out,hA]
      have t2:=qf (qb V3 (.cells #[.int .i64 g1,.int .i64 g2] 125)) HD.out.2.2
      obtain ⟨q3,q4,z3,z4⟩:=zg t2
      have HL:Hid (Loc (V3.alloc (.cells #[.int .i64 g1,.int .i64 g2] 125)) nb 125):=⟨_,t2⟩
      clear hA hS3 t2 hg HNX
      unfold kf fv
      simp only
      go_wp2_with fail
      refine bodyPost_ret (v:=.agg #[.int .i64 g1,.int .i64 g2]) (by simp [results,Tryz.results109,go_sem, *]) rfl ?_
      rw [HRR.out]
      exact (zf (HD.out.1.step (qb _ _)) (HD.out.2.1.trans (qp (qb _ _))) HL.out HNB.out HWW.out (by rw [HF.out];rfl) (fun S1 h=>by rw [HF.out] at h;cases h)).q
     | ok S4 =>
      have e3:S3=S4:=hS3 S4 hA
      subst e3
      have HF:Hid (x9 f2 S3=R):=by show _=_;rw [HNX.out,hA]
      have HLX:Hid (S3.ws.length<=f2):=by
       have l1:=qnd hA
       have l2:=j4 HJ.out.2.2.2.1.ok
       have l3:=HJ.out.1
       show _<=_
       omega
      clear hA hS3 HNX
      unfold kf fv
      simp only
      go_wp2_with fail
      go_roundg f2
      case measure=>omega
      case rel=>exact ⟨f2,Nat.le_refl _,(⟨S3,HLX.out,⟨h3,qs3,HD.out.1.step (qb _ _)⟩,HD.out.2.1.trans (qp (qb _ _)),qf (qb _ _) HD.out.2.2,HF.out⟩:∃ S1,S1.ws.length<=f2/\(∃ h' qs',RD w _ rb h' S1 qs')/\Keep W _/\_=some (Obj.cells #[.int .i64 0,.int .i64 0] 125 (0,0))/\x9 f2 S1=R)⟩
  ·have HSK:Hid (Calls Tryz.prog 121 #[.pointer (some ⟨rb,0,none⟩),.string ⟨#[37,37]⟩] wr fun e W'=>e=.returned (.bool false)/\(∃ h',RD w W' rb h' S1 qs1)/\Keep wr W'):=kq ⟨#[37,37]⟩ xu w wr rb h1 S1 qs1 HJ.out.2.2.2.1 h2
   have HNX:Hid (R1=(match zm S1 with | .error e=>.error e | .ok S2=>x8 f' S2)):=by
    show _=_
    rw [<-HJ.out.2.2.2.2]
    conv=>lhs;unfold x8
    rw [if_neg h2]
    rfl
   clear h2
   go_wp2_with fail
   refine HSK.out.mono ?_
   rintro e V ⟨rfl,hrd,hk⟩
   have HV:Hid ((∃ h',RD w V rb h' S1 qs1)/\Keep W V/\V.heap[nb]?=some (.cells #[.int .i64 0,.int .i64 0] 125 (0,0))):=⟨hrd,HJ.out.2.1.trans hk,HKP.out HJ.out.2.2.1 hk⟩
   clear hrd hk HSK
   obtain ⟨h2,hrd2⟩:=HV.out.1
   have HC:Hid (Calls Tryz.prog 122 #[.pointer (some ⟨rb,0,none⟩)] V fun e W'=>Did w V rb qs1 (zm S1) e W'):=qkj w V rb h2 S1 qs1 hrd2
   clear hrd2
   go_wp2_with fail
   refine HC.out.mono ?_
   intro e V3 hD
   obtain ⟨h3,S3,rfl,hrd3,hkp3,hS3⟩:=hD
   have HD:Hid (RD w V3 rb h3 S3 qs1/\Keep W V3/\V3.heap[nb]?=some (.cells #[.int .i64 0,.int .i64 0] 125 (0,0))):=⟨hrd3,HV.out.2.1.trans hkp3,HKP.out HV.out.2.2 hkp3⟩
   clear hrd3 hkp3 HC
   cases hA:zm S1 with
   | error g =>
    have hg:=qig hA
    obtain ⟨g1,g2⟩:=g
    have hg':(g1 != 0)=true:=by simpa using hg
    have HF:Hid (vh S=.error (g1,g2)):=by show _=_;rw [HRD.out,HNX.out,hA];rfl
    have t2:=qf (qb V3 (.cells #[.int .i64 g1,.int .i64 g2] 125)) HD.out.2.2
    obtain ⟨q3,q4,z3,z4⟩:=zg t2
    have HL:Hid (Loc (V3.alloc (.cells #[.int .i64 g1,.int .i64 g2] 125)) nb 125):=⟨_,t2⟩
    clear hA hS3 t2 hg HNX
    unfold kf fv
    simp only
    go_wp2_with fail
    refine bodyPost_ret (v:=.agg #[.int .i64 g1,.int .i64 g2]) (by simp [results,Tryz.results109,go_sem, *]) rfl ?_
    exact (zf (HD.out.1.step (qb _ _)) (HD.out.2.1.trans (qp (qb _ _))) HL.out HNB.out HWW.out (by rw [HF.out];rfl) (fun S1 h=>by rw [HF.out] at h;cases h)).q
   | ok S4 =>
    have e3:S3=S4:=hS3 S4 hA
    subst e3
    have HF:Hid (x8 f' S3=R1):=by show _=_;rw [HNX.out,hA]
    have HLX:Hid (S3.ws.length<=f'):=by
     have l1:=qou hA
     have l2:=j4 HJ.out.2.2.2.1.ok
     have l3:=HJ.out.1
     show _<=_
     omega
    clear hA hS3 HNX
    unfold kf fv
    simp only
    go_wp2_with fail
    go_roundg f'
    case measure=>omega
    case rel=>exact ⟨f',Nat.le_refl _,(⟨S3,HLX.out,⟨h3,qs1,HD.out.1.step (qb _ _)⟩,HD.out.2.1.trans (qp (qb _ _)),qf (qb _ _) HD.out.2.2,HF.out⟩:∃ S1,S1.ws.length<=f'/\(∃ h' qs',RD w _ rb h' S1 qs')/\Keep W _/\_=some (Obj.cells #[.int .i64 0,.int .i64 0] 125 (0,0))/\x8 f' S1=R1)⟩
end Go.Proofs.YtngclmglmhiljaaGreatDoor
