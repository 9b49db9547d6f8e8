/- Texts that the proofs of the First statements stand on, part Prf13. -/
import Derived.Lib.ConvBytes
import Derived.Test.YtngclmglmhiljaaGreatDoorPrf12
set_option maxHeartbeats 16000000
set_option maxRecDepth 100000
namespace Go.Proofs.YtngclmglmhiljaaGreatDoor
open Go.RowKit
theorem RD.setBox{w W:World}{a:Nat}{h:RHd}{S:St}{qs:List (Ru × Option Addr × Nat)}(r:RD w W a h S qs)(j:Nat)(u:Value)(b:St)(g:b.ws=S.ws)(l:b.ts=S.ts)(m:b.ls=S.ls)(c:b.rs=S.rs)(s:(rdC h S).setIfInBounds j u=rdC h b)(y:StOk b):
  RD w (W.setCell ⟨a,j,none⟩ u) a h b qs/\Keep W (W.setCell ⟨a,j,none⟩ u):=by
 have d:Loc W a 139:=⟨_,r.box⟩
 have far:∀{E k n:Nat} {v:Value} {cs:List Value},W.ownsRow w.heap.size E k v n cs->E≠139->(W.setCell ⟨a,j,none⟩ u).ownsRow w.heap.size E k v n cs:=by
  intro E k n v cs f o;exact qh f (fun i t=>Below.heap_setCell _ _ _ _ (qr (qx f t) d o))
 refine⟨⟨?_,?_,?_,?_,?_,fun q x=>far (r.row q x) (by decide),r.bel.setCell (p:=⟨a,j,none⟩) r.new _,r.new,y⟩,(Keep.refl W).set d (.inl rfl) _ _⟩
 ·rw[setCell_eq_setRow W a j _ 139 (0,0) _ r.box,s];exact setRow_heap _ _ _ _ 139 _ r.box
 ·rw[g];exact r.wds
 ·rw[l,m];exact far r.tok (by decide)
 ·rw[c];exact far r.rul (by decide)
 ·rw[c];exact r.map
theorem qbj(a:Int)(x:Wd)(w W:World)(b:Nat)(h:RHd)(S:St)(qs:List (Ru × Option Addr × Nat))(r:RD w W b h S qs):
  Calls Tryz.prog 139 #[.pointer (some ⟨b,0,none⟩),wv x,.int .i64 a] W fun e O=>Did w W b qs (kw x a S) e O:=by
 obtain⟨j,k,i⟩:=x
 obtain⟨u,Q⟩:∃o:Obj,o=.cells #[.pointer (some ⟨b,0,none⟩)] 150:=⟨_,rfl⟩
 obtain⟨y,R⟩:∃o:Obj,o=.cells #[.int .i64 j,.string k,.int .i64 i] 149:=⟨_,rfl⟩
 obtain⟨B,T⟩:∃o:Obj,o=.cells #[.int .i64 a] 3:=⟨_,rfl⟩
 obtain⟨E,U⟩:∃o:Obj,o=.cells #[.int .i64 0,.int .i64 0] 125:=⟨_,rfl⟩
 have C:Below W.heap.size W ((((W.alloc u).alloc y).alloc B).alloc E):=qd (qd (qd (qb _ _) (qb _ _)) (qb _ _)) (qb _ _);have m:((((W.alloc u).alloc y).alloc B).alloc E).heap[W.heap.size]?=some u:=qf (qd (qd (qb _ _) (qb _ _)) (qb _ _)) (heap_alloc_new _ _)
 have f:((((W.alloc u).alloc y).alloc B).alloc E).heap[W.heap.size+1]?=some y:=by
  have:=heap_alloc_new (W.alloc u) y;rw[qt]at this;exact qf (qd (qb _ _) (qb _ _)) this
 have t:((((W.alloc u).alloc y).alloc B).alloc E).heap[W.heap.size+1+1]?=some B:=by
  have:=heap_alloc_new ((W.alloc u).alloc y) B;rw[qt,qt]at this;exact qf (qb _ _) this
 have n:((((W.alloc u).alloc y).alloc B).alloc E).heap[W.heap.size+1+1+1]?=some E:=by
  have:=heap_alloc_new (((W.alloc u).alloc y).alloc B) E;rw[qt,qt,qt]at this;exact this
 subst Q R T U;have q:Hid (RD w ((((W.alloc (.cells #[.pointer (some ⟨b,0,none⟩)] 150)).alloc (.cells #[.int .i64 j,.string k,.int .i64 i] 149)).alloc (.cells #[.int .i64 a] 3)).alloc (.cells #[.int .i64 0,.int .i64 0] 125)) b h S qs):=r.step C;have H:Hid (w.heap.size<=W.heap.size):=r.bel.size;clear r;unfold wv;simp only;go_enter Tryz.func139,Tryz.ntmps139
 go_upto_region 1 with fail
 generalize (((W.alloc (.cells #[.pointer (some ⟨b,0,none⟩)] 150)).alloc (.cells #[.int .i64 j,.string k,.int .i64 i] 149)).alloc (.cells #[.int .i64 a] 3)).alloc (.cells #[.int .i64 0,.int .i64 0] 125)=c at C m f t n q ⊢
 obtain⟨d,D⟩:∃d,d=W.heap.size:=⟨_,rfl⟩
 rw[<-D]at m f t n ⊢
 have G:Hid (W.heap.size<=d+1+1+1):=by have:=Nat.le_of_eq D.symm;show _<=_;omega
 have F:Hid (Keep W c):=qp C
 have l:Hid (c.heap[d]?=some (.cells #[.pointer (some ⟨b,0,none⟩)] 150 (0,0))/\c.heap[d+1]?=some (.cells #[.int .i64 j,.string k,.int .i64 i] 149 (0,0))/\c.heap[d+1+1]?=some (.cells #[.int .i64 a] 3 (0,0))/\c.heap[d+1+1+1]?=some (.cells #[.int .i64 0,.int .i64 0] 125 (0,0))):=⟨m,f,t,n⟩
 have s0:c.cell? ⟨d,0,none⟩=some (.pointer (some ⟨b,0,none⟩)):=by rw[qe m];rfl
 have s2:c.cell? ⟨b,2,none⟩=some (.int .i64 (S.lv:Int)):=by rw[qe q.out.box];rfl
 have f2:c.frozen? ⟨b,2,none⟩=false:=qi q.out.box 2;have L:=q.out.ok.lv;clear D C m t
 by_cases J:S.lv=8
 ·have hq:((S.lv:Int) == 8)=true:=by simp[J]
  have Y:Hid (kw ⟨j,k,i⟩ a S=.error (zj ⟨j,k,i⟩)):=by
   show _=_;unfold kw;rw[if_pos J]
  obtain⟨p0,p1,p2⟩:=yy f;clear J f n L
  generalize (S.lv:Int)=lv at *
  go_wp2_with fail;refine(jo ⟨j,k,i⟩ _).mono ?_;rintro e I ⟨rfl,C⟩;have s:Hid (Below c.heap.size c I):=C;clear C p0 p1 p2 s0 s2 f2;obtain⟨q3,q4,z3,z4⟩:=zg (qf s.out l.out.2.2.2);unfold fv zj;simp only;go_wp2_with fail;refine bodyPost_ret (v:=.agg #[.int .i64 1,.int .i64 i]) (by simp[results,Tryz.results139,go_sem, *]) rfl ?_;exact zf (q.out.step s.out) (F.out.trans (qp s.out)) ⟨_,qf s.out l.out.2.2.2⟩ G.out H.out (by rw[Y.out];rfl) (fun N h=>by rw[Y.out]at h;cases h)
 ·have hq:((S.lv:Int) == 8)=false:=by simp;omega
  have p:=q.out.setBox 2 (.int .i64 ((S.lv:Int)+1)) ⟨S.ws,S.ts,S.ls,S.lv+1,S.st,S.ed,S.ex,S.rs⟩ rfl rfl rfl rfl (by unfold rdC;simp) ⟨q.out.ok.ends,q.out.ok.nt,q.out.ok.nl,by simp only;omega,q.out.ok.nr⟩
  have t0:=p.2.loc _ _ _ l.out.1 (by decide) (by decide) (by decide) (by decide);have t2:=p.2.loc _ _ _ l.out.2.2.1 (by decide) (by decide) (by decide) (by decide)
  have X:Hid (Calls Tryz.prog 137 #[.pointer (some ⟨b,0,none⟩),.func (.func 158) #[] #[.pointer (some ⟨d,0,none⟩),.pointer (some ⟨d+1+1,0,none⟩)]] (c.setCell ⟨b,2,none⟩ (.int .i64 ((S.lv:Int)+1))) fun e O=>Did w (c.setCell ⟨b,2,none⟩ (.int .i64 ((S.lv:Int)+1))) b qs (kw ⟨j,k,i⟩ a S) e O):=by
   have:=qht a d (d+1+1) w _ b h _ qs p.1 S.ws.length (Nat.le_refl _) t0 t2
   have e:kw ⟨j,k,i⟩ a S=zt (levP (((S.lv+1:Nat)):Int) a) S.ws.length ⟨S.ws,S.ts,S.ls,S.lv+1,S.st,S.ed,S.ex,S.rs⟩:=by
    unfold kw;rw[if_neg J];rfl
   rw[e];exact this
  have HS:Hid (Keep c (c.setCell ⟨b,2,none⟩ (.int .i64 ((S.lv:Int)+1)))):=p.2
  have V:(c.setCell ⟨b,2,none⟩ (.int .i64 ((S.lv:Int)+1))).cell? ⟨d,0,none⟩=some (.pointer (some ⟨b,0,none⟩)):=by rw[qe t0];rfl
  have a0:(S.lv:Int)<=8/\0<=(S.lv:Int):=by omega
  clear p t0 t2 J f n L
  generalize (S.lv:Int)=lv at *
  go_wp2_with fail;refine X.out.mono ?_;intro e I hD;obtain⟨h3,Z,rfl,A,z,K⟩:=hD
  have M:Hid (RD w I b h3 Z qs/\Keep c I/\∀N,kw ⟨j,k,i⟩ a S=.ok N->Z=N):=⟨A,HS.out.trans z,K⟩
  clear A z K X s0 V s2 f2;have t3:=M.out.2.1.loc _ _ _ l.out.2.2.2 (by decide) (by decide) (by decide) (by decide);obtain⟨q3,q4,z3,z4⟩:=zg t3
  have HL:Hid (Loc I (d+1+1+1) 125):=⟨_,t3⟩
  obtain⟨g,P⟩:∃g,g=kf (kw ⟨j,k,i⟩ a S):=⟨_,rfl⟩
  have HG:Hid (kf (kw ⟨j,k,i⟩ a S)=g):=P.symm;rw[<-P];clear P t3;obtain⟨g1,g2⟩:=g;unfold fv;simp only;go_wp2_with fail;refine bodyPost_ret (v:=.agg #[.int .i64 g1,.int .i64 g2]) (by simp[results,Tryz.results139,go_sem, *]) rfl ?_;exact zf M.out.1 (F.out.trans M.out.2.1) HL.out G.out H.out HG.out M.out.2.2
theorem qi6(x:Wd)(w W:World)(g:Nat)(h:RHd)(S:St)(qs:List (Ru × Option Addr × Nat))(r:RD w W g h S qs):
  Calls Tryz.prog 140 #[.pointer (some ⟨g,0,none⟩),wv x] W fun e T=>Did w W g qs (vo x S) e T:=by
 obtain⟨m,n,l⟩:=x;have D:Below W.heap.size W ((W.alloc (.cells #[.int .i64 m,.string n,.int .i64 l] 149)).alloc (.cells #[.int .i64 0,.int .i64 0] 125)):=qd (qb _ _) (qb _ _);have k:((W.alloc (.cells #[.int .i64 m,.string n,.int .i64 l] 149)).alloc (.cells #[.int .i64 0,.int .i64 0] 125)).heap[W.heap.size]?=some (.cells #[.int .i64 m,.string n,.int .i64 l] 149 (0,0)):=qf (qb _ _) (heap_alloc_new _ _)
 have s:((W.alloc (.cells #[.int .i64 m,.string n,.int .i64 l] 149)).alloc (.cells #[.int .i64 0,.int .i64 0] 125)).heap[W.heap.size+1]?=some (.cells #[.int .i64 0,.int .i64 0] 125 (0,0)):=by
  have:=heap_alloc_new (W.alloc (.cells #[.int .i64 m,.string n,.int .i64 l] 149)) (.cells #[.int .i64 0,.int .i64 0] 125)
  rwa [qt]at this
 have M:Hid (RD w ((W.alloc (.cells #[.int .i64 m,.string n,.int .i64 l] 149)).alloc (.cells #[.int .i64 0,.int .i64 0] 125)) g h S qs):=r.step D;have Q:Hid (w.heap.size<=W.heap.size):=r.bel.size;clear r;unfold wv;simp only;go_enter Tryz.func140,Tryz.ntmps140
 go_upto_region 1 with fail
 generalize (W.alloc (.cells #[.int .i64 m,.string n,.int .i64 l] 149)).alloc (.cells #[.int .i64 0,.int .i64 0] 125)=j at D k s M ⊢
 obtain⟨I,A⟩:∃I,I=W.heap.size:=⟨_,rfl⟩
 rw[<-A]at k s ⊢;have L:Hid (W.heap.size<=I+1):=Nat.le_succ_of_le (Nat.le_of_eq A.symm);have K:Hid (Keep W j):=qp D
 have F:Hid (j.heap[I]?=some (.cells #[.int .i64 m,.string n,.int .i64 l] 149 (0,0))/\j.heap[I+1]?=some (.cells #[.int .i64 0,.int .i64 0] 125 (0,0))):=⟨k,s⟩
 have s3:j.cell? ⟨g,3,none⟩=some (.string S.st):=by rw[qe M.out.box];rfl
 by_cases b:S.st=⟨#[]⟩
 ·have hq:(S.st.toList == [])=true:=(zo _).2 b;have O:Hid (Calls Tryz.prog 143 #[.pointer (some ⟨g,0,none⟩),.int .i64 1] j fun e T=>e=.returned (.tuple #[wv (takeW 1 S),fv (jp 1 S)])/\Went w j g (takeS 1 S) qs T):=jx 1 (by decide) w j g h S qs M.out
  have N:Hid (vo ⟨m,n,l⟩ S=(match kv 1 S with | .error e=>.error e | .ok (w,z)=>.ok ⟨z.ws,z.ts,z.ls,z.lv,w.t,z.ed,z.ex,z.rs⟩)):=by
   show _=_;unfold vo;rw[if_neg (by simpa using b)];rfl
  clear k s A D b
  obtain⟨f,U⟩:∃f,f=jp 1 S:=⟨_,rfl⟩
  obtain⟨y,V⟩:∃y,y=takeW 1 S:=⟨_,rfl⟩
  have J:Hid (f=jp 1 S/\y=takeW 1 S):=⟨U,V⟩
  rw[<-U,<-V]at O;clear U V;obtain⟨o,p⟩:=f;obtain⟨C,c,B⟩:=y;unfold wv fv at O;simp only at O
  generalize S.st=st at *
  go_wp2_with fail;refine O.out.mono ?_;rintro e d ⟨rfl,i⟩
  have P:Hid (Went w j g (takeS 1 S) qs d/\Keep j d):=⟨i,i.keep ⟨_,M.out.box⟩⟩
  clear i O s3;obtain⟨Y,E⟩:=P.out.1.rd;have G:Below d.heap.size d ((d.alloc (.cells #[.int .i64 C,.string c,.int .i64 B] 149)).alloc (.cells #[.int .i64 o,.int .i64 p] 125)):=qd (qb _ _) (qb _ _);have a:=E.step G
  have s3:((d.alloc (.cells #[.int .i64 C,.string c,.int .i64 B] 149)).alloc (.cells #[.int .i64 o,.int .i64 p] 125)).cell? ⟨g,3,none⟩=some (.string (takeS 1 S).st):=by rw[qe a.box];rfl
  have z5:((d.alloc (.cells #[.int .i64 C,.string c,.int .i64 B] 149)).alloc (.cells #[.int .i64 o,.int .i64 p] 125)).frozen? ⟨g,3,none⟩=false:=qi a.box 3;have b:=a.setBox 3 (.string c) ⟨(takeS 1 S).ws,(takeS 1 S).ts,(takeS 1 S).ls,(takeS 1 S).lv,c,(takeS 1 S).ed,(takeS 1 S).ex,(takeS 1 S).rs⟩ rfl rfl rfl rfl (by unfold rdC;simp) ⟨a.ok.ends,a.ok.nt,a.ok.nl,a.ok.lv,a.ok.nr⟩
  have H:Keep j (((d.alloc (.cells #[.int .i64 C,.string c,.int .i64 B] 149)).alloc (.cells #[.int .i64 o,.int .i64 p] 125)).setCell ⟨g,3,none⟩ (.string c)):=(P.out.2.trans (qp G)).trans b.2;have t2:=H.loc _ _ _ F.out.2 (by decide) (by decide) (by decide) (by decide);obtain⟨q3,q4,z3,z4⟩:=zg t2
  have t5:((d.alloc (.cells #[.int .i64 C,.string c,.int .i64 B] 149)).alloc (.cells #[.int .i64 o,.int .i64 p] 125)).heap[d.heap.size+1]?=some (.cells #[.int .i64 o,.int .i64 p] 125 (0,0)):=by
   have:=heap_alloc_new (d.alloc (.cells #[.int .i64 C,.string c,.int .i64 B] 149)) (.cells #[.int .i64 o,.int .i64 p] 125)
   rwa [qt]at this
  obtain⟨q5,q6,-,-⟩:=zg (b.2.loc _ _ _ t5 (by decide) (by decide) (by decide) (by decide))
  have R:Hid (RD w (((d.alloc (.cells #[.int .i64 C,.string c,.int .i64 B] 149)).alloc (.cells #[.int .i64 o,.int .i64 p] 125)).setCell ⟨g,3,none⟩ (.string c)) g Y ⟨(takeS 1 S).ws,(takeS 1 S).ts,(takeS 1 S).ls,(takeS 1 S).lv,c,(takeS 1 S).ed,(takeS 1 S).ex,(takeS 1 S).rs⟩ qs/\Keep j (((d.alloc (.cells #[.int .i64 C,.string c,.int .i64 B] 149)).alloc (.cells #[.int .i64 o,.int .i64 p] 125)).setCell ⟨g,3,none⟩ (.string c))/\Loc (((d.alloc (.cells #[.int .i64 C,.string c,.int .i64 B] 149)).alloc (.cells #[.int .i64 o,.int .i64 p] 125)).setCell ⟨g,3,none⟩ (.string c)) (I+1) 125):=⟨b.1,H,⟨_,t2⟩⟩
  clear E a b H t2 t5 G;generalize (takeS 1 S).st=a0 at s3;go_wp2_with fail;refine bodyPost_ret (v:=.agg #[.int .i64 o,.int .i64 p]) (by simp[results,Tryz.results140,go_sem, *]) rfl ?_;refine zf R.out.1 (K.out.trans R.out.2.1) R.out.2.2 L.out Q.out ?_ ?_
  ·rw[N.out,J.out.1]
   rcases ju 1 S with ⟨-,hP,-,-,hF⟩ | ⟨-,hP,hF,-⟩
   ·rw[hP,hF];rfl
   ·rw[hP,hF];rfl
  ·intro z q;rw[N.out]at q
   rcases ju 1 S with ⟨-,hP,hW,hS,-⟩ | ⟨-,hP,-,-⟩
   ·rw[hP]at q
    cases q
    have e:c=S.hd.t:=by
     have:=J.out.2;rw[hW]at this;rw[<-this]
    rw[hS,e]
   ·rw[hP]at q
    cases q
 ·have hq:(S.st.toList == [])=false:=by
   cases Z:(S.st.toList == [])
   ·rfl
   ·exact absurd ((zo _).1 Z) b
  have X:Hid (vo ⟨m,n,l⟩ S=.error (jb ⟨m,n,l⟩)):=by
   show _=_;unfold vo;rw[if_pos b]
  obtain⟨p0,p1,p2⟩:=yy k;clear k s A D b
  generalize S.st=st at *
  go_wp2_with fail;refine(qaz ⟨m,n,l⟩ _).mono ?_;rintro e d ⟨rfl,D⟩;have u:Hid (Below j.heap.size j d):=D;clear D p0 p1 p2 s3;obtain⟨q3,q4,z3,z4⟩:=zg (qf u.out F.out.2);unfold fv jb;simp only;go_wp2_with fail;refine bodyPost_ret (v:=.agg #[.int .i64 7,.int .i64 l]) (by simp[results,Tryz.results140,go_sem, *]) rfl ?_;exact zf (M.out.step u.out) (K.out.trans (qp u.out)) ⟨_,qf u.out F.out.2⟩ L.out Q.out (by rw[X.out];rfl) (fun z h=>by rw[X.out]at h;cases h)
theorem qif{l:List UInt8}{k:Nat}{c:UInt8}(h:l[k]?=some c):numP (l.take (k+1))=numP (l.take k) * 10+((c.toNat:Int) - 48):=by
 unfold numP;rw[zn h,List.foldl_append];rfl
theorem qgx:∀(k:Nat) (l:List UInt8),(∀j,j<l.length->isD (bt l j)=true)->k<=l.length->0<=numP (l.take k)/\numP (l.take k)<10 ^ k
 | 0,l,_,_=>by simp[numP]
 | k+1,l,hd,hk=>by
  obtain⟨d,f⟩:=qgx k l hd (by omega)
  have c:k<l.length:=by omega
  have b:l[k]?=some l[k]:=List.getElem?_eq_getElem c;rw[qif b];have a:=hd k c;unfold isD bt at a;rw[b]at a;simp at a;rw[Int.pow_succ];omega
theorem qlm(w:World)(s:ByteArray):Below w.heap.size w (Lib.bytesWorld w 5 s) :=
 ⟨rfl,rfl,rfl,by rw[Lib.bytesWorld_size];omega,fun k a=>Lib.bytesWorld_at_old w 5 s k a⟩
theorem qi7(s:ByteArray)(w:World)(Y:1<=s.size)(Z:s.size<=4)(hd:∀j,j<s.size->isD (bt (by8 s) j)=true):
  Calls Tryz.prog 170 #[.string s] w fun e U=>e=.returned (.tuple #[.int .i64 (numP (by8 s)),.nilIface])/\Below w.heap.size w U:=by
 have D:Hid (∀j,j<s.size->isD (bt (by8 s) j)=true):=hd;have y:∀W:World,(Instr.index 9 (.string s) (.int .i64 0)).run Tryz.prog W=.ok (.int .u8 (bt (by8 s) 0)) W:=ku s 0 (by omega);have b:=hd 0 (by omega);clear hd;unfold isD at b;simp only[Bool.and_eq_true,decide_eq_true_eq]at b;generalize bt (by8 s) 0=E at y b;obtain⟨O,P⟩:=b
 have V:(E == 45)=false:=by simp;omega
 have X:(E == 43)=false:=by simp;omega
 have p:(convert 9 56 (.string s)).run Tryz.prog w=.ok (.slice (some ⟨w.heap.size,0,none⟩) s.size (grownCap w s.size 0 5)) (Lib.bytesWorld w 5 s):=Lib.run_convert_string_bytes w 9 56 5 s Tryz.underlying9 Tryz.underlying56 Tryz.underlying5;have a:=Lib.bytesWorld_cell w 5 s;have H:Hid (Below w.heap.size w (Lib.bytesWorld w 5 s)):=qlm w s
 have C:Hid (∀j,j<s.size->(Lib.bytesWorld w 5 s).cell? ⟨w.heap.size,j,none⟩=some (.int .u8 (bt (by8 s) j))):=fun j z=>by
  rw[a j z];rfl
 clear a
 have K:(0:Int)<(s.size:Int):=by omega
 have L:(s.size:Int)<19:=by omega
 have M:¬(s.size:Int)<1:=by omega
 have N:(s.size:Int)<10:=by omega
 have t:Hid (s.size=(by8 s).length):=(qy s).symm;have f:Hid (s.size<=grownCap w s.size 0 5):=grownCap_ge _ _ _ _;generalize grownCap w s.size 0 5=u at p f;go_enter Tryz.func170,Tryz.ntmps170
 go_upto_block 0 with fail
 generalize Lib.bytesWorld w 5 s=w1 at *
 obtain⟨F,n⟩:∃F,F=w.heap.size:=⟨_,rfl⟩
 rw[<-n]at C ⊢;clear n p;have G:s.size<=u:=f.out
 go_cut [6] (fun s6 wd=>s6=.int .i64 (numP (by8 s))/\wd=w1)
 case first =>
  go_wp2_with fail
  go_loopg [6,8,49] s.size (fun kx s6 s8 s49 wr=>∃k:Nat,s49=.int .i64 k/\s6=.int .i64 (numP ((by8 s).take k))/\wr=w1/\k<=s.size/\s.size - k<=kx)
  case atStart=>exact⟨0,rfl,rfl,rfl,Nat.zero_le _,by omega⟩
  case round =>
   obtain⟨k,rfl,rfl,rfl,hk,hg⟩:=hrel
   by_cases i:k<s.size
   ·have q:(k:Int)<(s.size:Int):=by omega
    have x:=C.out k i;have c:=D.out k i;unfold isD at c;simp only[Bool.and_eq_true,decide_eq_true_eq]at c
    have g:k<(by8 s).length:=by rw[<-t.out];exact i
    have h:(by8 s)[k]?=some (by8 s)[k]:=List.getElem?_eq_getElem g
    have o:bt (by8 s) k=((((by8 s)[k]).toNat:Nat):Int):=by unfold bt;rw[h];rfl
    have l:Hid (numP ((by8 s).take (k+1))=numP ((by8 s).take k) * 10+(bt (by8 s) k - 48)):=by
     show _=_;rw[qif h,o]
    have B:=qgx k (by8 s) (fun j z=>D.out j (by rw[t.out];exact z)) (by omega)
    have A:(10:Int) ^ k<=1000:=by
     have:k<=3:=by omega
     match k,this with
     | 0,_=>decide
     | 1,_=>decide
     | 2,_=>decide
     | 3,_=>decide
    obtain⟨d,hd⟩:∃d:Nat,bt (by8 s) k=48+(d:Int):=⟨(bt (by8 s) k - 48).toNat,by omega⟩
    rw[hd]at x c l
    have Q:d<=9:=by omega
    have r:0<=numP ((by8 s).take k)/\numP ((by8 s).take k)<=999:=by omega
    generalize numP ((by8 s).take k)=m at *
    obtain⟨R,S⟩:=r;clear h o B A hd g c;go_wp2_with fail;go_roundg (s.size - (k+1))
    case measure=>omega
    case rel=>exact⟨k+1,by simp,by rw[l.out],rfl,by omega,Nat.le_refl _⟩
   ·have q:¬(k:Int)<(s.size:Int):=by omega
    have I:Hid ((by8 s).take k=by8 s):=List.take_of_length_le (by rw[<-t.out];omega)
    go_wp2_with fail;go_meet;exact⟨by rw[I.out],rfl⟩
 case rest =>
  obtain⟨rfl,T⟩:=hcut;subst wc
  obtain⟨m,r⟩:∃m,m=numP (by8 s):=⟨_,rfl⟩
  have J:Hid (numP (by8 s)=m):=r.symm;rw[<-r];clear r;go_wp2_with fail;refine bodyPost_ret (v:=.tuple #[.int .i64 m,.nilIface]) (by simp[results,Tryz.results170,go_sem]) rfl ?_;exact⟨by rw[J.out],H.out⟩
theorem qm9(s:ByteArray)(w:World)(b:1<=s.size)(c:s.size<=4)(hd:∀j,j<s.size->isD (bt (by8 s) j)=true):
  Calls Tryz.prog 159 #[.string s] w fun e a=>e=.returned (.tuple #[.int .i64 (numP (by8 s)),.nilIface])/\Below w.heap.size w a:=by
 have H:Hid (Calls Tryz.prog 170 #[.string s] w fun e a=>e=.returned (.tuple #[.int .i64 (numP (by8 s)),.nilIface])/\Below w.heap.size w a):=qi7 s w b c hd;clear hd b c
 generalize numP (by8 s)=m at *
 go_enter Tryz.func159,Tryz.ntmps159;go_wp2_with fail;refine H.out.mono ?_;rintro e w1 ⟨rfl,d⟩;have f:Hid (Below w.heap.size w w1):=d;clear d;go_wp2_with fail;refine bodyPost_ret (v:=.tuple #[.int .i64 m,.nilIface]) (by simp[results,Tryz.results159,go_sem]) rfl ?_;exact⟨rfl,f.out⟩
theorem qhu(x:Wd)(w W:World)(d:Nat)(h:RHd)(S:St)(qs:List (Ru × Option Addr × Nat))(r:RD w W d h S qs):
  Calls Tryz.prog 141 #[.pointer (some ⟨d,0,none⟩),wv x] W fun e W'=>Did w W d qs (jg x S) e W':=by
 obtain⟨n,o,k⟩:=x;have A:Below W.heap.size W ((W.alloc (.cells #[.int .i64 n,.string o,.int .i64 k] 149)).alloc (.cells #[.int .i64 0,.int .i64 0] 125)):=qd (qb _ _) (qb _ _);have q:((W.alloc (.cells #[.int .i64 n,.string o,.int .i64 k] 149)).alloc (.cells #[.int .i64 0,.int .i64 0] 125)).heap[W.heap.size]?=some (.cells #[.int .i64 n,.string o,.int .i64 k] 149 (0,0)):=qf (qb _ _) (heap_alloc_new _ _)
 have B:((W.alloc (.cells #[.int .i64 n,.string o,.int .i64 k] 149)).alloc (.cells #[.int .i64 0,.int .i64 0] 125)).heap[W.heap.size+1]?=some (.cells #[.int .i64 0,.int .i64 0] 125 (0,0)):=by
  have:=heap_alloc_new (W.alloc (.cells #[.int .i64 n,.string o,.int .i64 k] 149)) (.cells #[.int .i64 0,.int .i64 0] 125)
  rwa [qt]at this
 have L:Hid (RD w ((W.alloc (.cells #[.int .i64 n,.string o,.int .i64 k] 149)).alloc (.cells #[.int .i64 0,.int .i64 0] 125)) d h S qs):=r.step A;have M:Hid (w.heap.size<=W.heap.size):=r.bel.size;clear r;unfold wv;simp only;go_enter Tryz.func141,Tryz.ntmps141
 go_upto_region 1 with fail
 generalize (W.alloc (.cells #[.int .i64 n,.string o,.int .i64 k] 149)).alloc (.cells #[.int .i64 0,.int .i64 0] 125)=i at A q B L ⊢
 obtain⟨R,H⟩:∃R,R=W.heap.size:=⟨_,rfl⟩
 rw[<-H]at q B ⊢;have K:Hid (W.heap.size<=R+1):=Nat.le_succ_of_le (Nat.le_of_eq H.symm);have J:Hid (Keep W i):=qp A
 have D:Hid (i.heap[R]?=some (.cells #[.int .i64 n,.string o,.int .i64 k] 149 (0,0))/\i.heap[R+1]?=some (.cells #[.int .i64 0,.int .i64 0] 125 (0,0))):=⟨q,B⟩
 have s4:i.cell? ⟨d,4,none⟩=some (.bool S.ed):=by rw[qe L.out.box];rfl
 cases s:S.ed
 ·rw[s]at s4;have u:Hid (Calls Tryz.prog 143 #[.pointer (some ⟨d,0,none⟩),.int .i64 2] i fun e W'=>e=.returned (.tuple #[wv (takeW 2 S),fv (jp 2 S)])/\Went w i d (takeS 2 S) qs W'):=jx 2 (by decide) w i d h S qs L.out
  have E:Hid (jg ⟨n,o,k⟩ S=(match kv 2 S with | .error e=>.error e | .ok (w,F)=>.ok ⟨F.ws,F.ts,F.ls,F.lv,F.st,true,numP (by8 w.t),F.rs⟩)):=by
   show _=_;unfold jg;rw[if_neg (by rw[s];decide)]
   rfl
  clear q B H A s
  rcases ju 2 S with ⟨hk,hP,hW,hS,hF⟩ | ⟨hk,hP,hF,hS⟩
  ·rw[hW,hS,hF]at u;obtain⟨I,-,-,-,-⟩:=qpe L.out.ok (by decide) hP
   generalize hy:S.hd=y at *
   obtain⟨Z,f,Y⟩:=y
   have T:Hid (jg ⟨n,o,k⟩ S=.ok ⟨S.next.ws,S.next.ts,S.next.ls,S.next.lv,S.next.st,true,numP (by8 f),S.next.rs⟩):=by
    show _=_;rw[E.out,hP]
   have z:Hid (1<=f.size/\f.size<=4/\∀j,j<f.size->isD (bt (by8 f) j)=true):=I.num hk;unfold wv fv at u;simp only at u;clear hk hP hW hS hF hy I E;go_wp2_with fail;refine u.out.mono ?_;rintro e g ⟨rfl,c⟩
   have p:Hid (Went w i d S.next qs g/\Keep i g):=⟨c,c.keep ⟨_,L.out.box⟩⟩
   clear c u s4;go_wp2_with fail;refine(qm9 f _ z.out.1 z.out.2.1 z.out.2.2).mono ?_;rintro e G ⟨rfl,A⟩;have U:Hid (Below g.heap.size g G):=qd (qd (qb _ _) (qb _ _)) A;clear A;obtain⟨h2,l⟩:=p.out.1.rd;have b:=l.step U.out;have Q:=b.setBox 5 (.int .i64 (numP (by8 f))) ⟨S.next.ws,S.next.ts,S.next.ls,S.next.lv,S.next.st,S.next.ed,numP (by8 f),S.next.rs⟩ rfl rfl rfl rfl (by unfold rdC;simp) ⟨b.ok.ends,b.ok.nt,b.ok.nl,b.ok.lv,b.ok.nr⟩
   have P:=Q.1.setBox 4 (.bool true) ⟨S.next.ws,S.next.ts,S.next.ls,S.next.lv,S.next.st,true,numP (by8 f),S.next.rs⟩ rfl rfl rfl rfl (by unfold rdC;simp) ⟨b.ok.ends,b.ok.nt,b.ok.nl,b.ok.lv,b.ok.nr⟩
   have c5:G.cell? ⟨d,5,none⟩=some (.int .i64 S.next.ex):=by rw[qe b.box];rfl
   have z5:G.frozen? ⟨d,5,none⟩=false:=qi b.box 5
   have c4:G.cell? ⟨d,4,none⟩=some (.bool S.next.ed):=by rw[qe b.box];rfl
   have z4:G.frozen? ⟨d,4,none⟩=false:=qi b.box 4;have O:Keep i ((G.setCell ⟨d,5,none⟩ (.int .i64 (numP (by8 f)))).setCell ⟨d,4,none⟩ (.bool true)):=((p.out.2.trans (qp U.out)).trans Q.2).trans P.2;have t2:=O.loc _ _ _ D.out.2 (by decide) (by decide) (by decide) (by decide);obtain⟨q3,q4,z3,z6⟩:=zg t2
   have V:Hid (RD w ((G.setCell ⟨d,5,none⟩ (.int .i64 (numP (by8 f)))).setCell ⟨d,4,none⟩ (.bool true)) d h2 ⟨S.next.ws,S.next.ts,S.next.ls,S.next.lv,S.next.st,true,numP (by8 f),S.next.rs⟩ qs/\Keep i ((G.setCell ⟨d,5,none⟩ (.int .i64 (numP (by8 f)))).setCell ⟨d,4,none⟩ (.bool true))/\Loc ((G.setCell ⟨d,5,none⟩ (.int .i64 (numP (by8 f)))).setCell ⟨d,4,none⟩ (.bool true)) (R+1) 125):=⟨P.1,O,⟨_,t2⟩⟩
   clear l b P Q O t2;generalize S.next.ex=a1 at c5;generalize S.next.ed=a0 at c4
   obtain⟨m,hm⟩:∃m,m=numP (by8 f):=⟨_,rfl⟩
   have HM:Hid (numP (by8 f)=m):=hm.symm;rw[<-hm]at V q3 q4 z3 z6 ⊢;rw[HM.out]at T;clear hm;go_wp2_with fail;refine bodyPost_ret (v:=.agg #[.int .i64 0,.int .i64 0]) (by simp[results,Tryz.results141,go_sem, *]) rfl ?_;exact zf V.out.1 (J.out.trans V.out.2.1) V.out.2.2 K.out M.out (by rw[T.out];rfl) (fun F h=>by rw[T.out]at h;cases h;rfl)
  ·have HN:Hid (jg ⟨n,o,k⟩ S=.error (zj S.hd)):=by
    show _=_;rw[E.out,hP]
   rw[hF,hS]at u;unfold zj at u HN;generalize takeW 2 S=y at u
   generalize S.hd.a=X at *
   obtain⟨Z,f,Y⟩:=y;unfold wv fv at u;simp only at u;clear hk hP hF hS E;go_wp2_with fail;refine u.out.mono ?_;rintro e g ⟨rfl,c⟩
   have p:Hid (Went w i d S qs g/\Keep i g):=⟨c,c.keep ⟨_,L.out.box⟩⟩
   clear c u s4;have N:Below g.heap.size g ((g.alloc (.cells #[.int .i64 Z,.string f,.int .i64 Y] 149)).alloc (.cells #[.int .i64 1,.int .i64 X] 125)):=qd (qb _ _) (qb _ _);have t2:=qf N (p.out.2.loc _ _ _ D.out.2 (by decide) (by decide) (by decide) (by decide));obtain⟨q3,q4,z3,z4⟩:=zg t2
   have HL:Hid (Loc ((g.alloc (.cells #[.int .i64 Z,.string f,.int .i64 Y] 149)).alloc (.cells #[.int .i64 1,.int .i64 X] 125)) (R+1) 125/\Below g.heap.size g ((g.alloc (.cells #[.int .i64 Z,.string f,.int .i64 Y] 149)).alloc (.cells #[.int .i64 1,.int .i64 X] 125))):=⟨⟨_,t2⟩,N⟩
   clear t2 N;go_wp2_with fail;refine bodyPost_ret (v:=.agg #[.int .i64 1,.int .i64 X]) (by simp[results,Tryz.results141,go_sem, *]) rfl ?_;obtain⟨h2,l⟩:=p.out.1.rd;exact zf (l.step HL.out.2) ((J.out.trans p.out.2).trans (qp HL.out.2)) HL.out.1 K.out M.out (by rw[HN.out];rfl) (fun F h=>by rw[HN.out]at h;cases h)
 ·rw[s]at s4
  have T:Hid (jg ⟨n,o,k⟩ S=.error (jb ⟨n,o,k⟩)):=by
   show _=_;unfold jg;rw[if_pos s]
  obtain⟨p0,p1,p2⟩:=yy q;clear q B H A s;go_wp2_with fail;refine(qaz ⟨n,o,k⟩ _).mono ?_;rintro e g ⟨rfl,A⟩;have C:Hid (Below i.heap.size i g):=A;clear A p0 p1 p2 s4;obtain⟨q3,q4,z3,z4⟩:=zg (qf C.out D.out.2);unfold fv jb;simp only;go_wp2_with fail;refine bodyPost_ret (v:=.agg #[.int .i64 7,.int .i64 k]) (by simp[results,Tryz.results141,go_sem, *]) rfl ?_;exact zf (L.out.step C.out) (J.out.trans (qp C.out)) ⟨_,qf C.out D.out.2⟩ K.out M.out (by rw[T.out];rfl) (fun F h=>by rw[T.out]at h;cases h)
theorem qmd{t:ByteArray}{S:St}(h:S.hd.t≠t):qaj t S=S:=by unfold qaj;rw[if_neg h]
theorem qki{t:ByteArray}{S:St}(h:S.hd.t=t):qaj t S=S.next:=by unfold qaj;rw[if_pos h]
theorem kq(t:ByteArray)(g:t≠⟨#[]⟩)(w W:World)(a:Nat)(h:RHd)(S:St)(qs:List (Ru × Option Addr × Nat))(r:RD w W a h S qs)(d:S.hd.t≠t):
  Calls Tryz.prog 121 #[.pointer (some ⟨a,0,none⟩),.string t] W fun e b=>e=.returned (.bool false)/\(∃f,RD w b a f S qs)/\Keep W b:=by
 refine(qak t g w W a h S qs r false ⟨fun h=>(by cases h),fun h=>absurd h d⟩).mono ?_;rintro e b ⟨rfl,c⟩;rw[qmd d]at c;exact⟨rfl,c.rd,c.keep ⟨_,r.box⟩⟩
theorem kk(t:ByteArray)(g:t≠⟨#[]⟩)(w W:World)(a:Nat)(h:RHd)(S:St)(qs:List (Ru × Option Addr × Nat))(r:RD w W a h S qs)(d:S.hd.t=t):
  Calls Tryz.prog 121 #[.pointer (some ⟨a,0,none⟩),.string t] W fun e b=>e=.returned (.bool true)/\(∃f,RD w b a f S.next qs)/\Keep W b:=by
 refine(qak t g w W a h S qs r true ⟨fun _=>d,fun _=>rfl⟩).mono ?_;rintro e b ⟨rfl,c⟩;rw[qki d]at c;exact⟨rfl,c.rd,c.keep ⟨_,r.box⟩⟩
theorem xu{c:UInt8}{r:List UInt8}:(⟨(c :: r).toArray⟩:ByteArray)≠⟨#[]⟩:=by
 intro e;have:=congrArg by8 e
 cases this
theorem qkj(w W:World)(d:Nat)(h:RHd)(S:St)(qs:List (Ru × Option Addr × Nat))(r:RD w W d h S qs):
  Calls Tryz.prog 122 #[.pointer (some ⟨d,0,none⟩)] W fun e m=>Did w W d qs (zm S) e m:=by
 have HR:Hid (RD w (W.alloc (.cells #[.int .i64 0,.int .i64 0] 125)) d h S qs):=r.step (qb _ _);have O:Hid (w.heap.size<=W.heap.size):=r.bel.size;have a1:(W.alloc (.cells #[.int .i64 0,.int .i64 0] 125)).heap[W.heap.size]?=some (.cells #[.int .i64 0,.int .i64 0] 125 (0,0)):=heap_alloc_new _ _;have a3:Hid (Keep W (W.alloc (.cells #[.int .i64 0,.int .i64 0] 125))):=qp (qb _ _)
 have a7:Hid (S.next.ws.length<=S.ws.length):=by have:=j4 r.ok;show _<=_;omega
 clear r;go_enter Tryz.func122,Tryz.ntmps122
 go_upto_region 1 with fail
 generalize W.alloc (.cells #[.int .i64 0,.int .i64 0] 125)=W1 at HR a1 a3 ⊢
 obtain⟨z,a4⟩:∃z,z=W.heap.size:=⟨_,rfl⟩
 rw[<-a4]at a1 ⊢;have I:Hid (W.heap.size<=z):=Nat.le_of_eq a4.symm;have a6:Hid (W1.heap[z]?=some (.cells #[.int .i64 0,.int .i64 0] 125 (0,0))):=a1;clear a1 a4;have a0:Hid (Calls Tryz.prog 123 #[.pointer (some ⟨d,0,none⟩)] W1 fun e m=>e=.returned (wv S.hd)/\Below W1.heap.size W1 m):=kp w W1 d h S qs HR.out;unfold wv at a0
 generalize hx:S.hd=x at *
 obtain⟨s,k,q⟩:=x;simp only at a0;have D:Hid (S.hd=⟨s,k,q⟩):=hx;clear hx;go_wp2_with fail;refine a0.out.mono ?_;rintro e W2 ⟨rfl,hB⟩;have a5:Hid (Below W1.heap.size W1 W2):=hB;clear hB a0
 go_upto_region 2 with fail
 have a2:Below W1.heap.size W1 (W2.alloc (.cells #[.int .i64 s,.string k,.int .i64 q] 149)):=qd a5.out (qb _ _)
 have C:Hid ((∃c,RD w (W2.alloc (.cells #[.int .i64 s,.string k,.int .i64 q] 149)) d c S qs)/\Keep W (W2.alloc (.cells #[.int .i64 s,.string k,.int .i64 q] 149))/\(W2.alloc (.cells #[.int .i64 s,.string k,.int .i64 q] 149)).heap[z]?=some (.cells #[.int .i64 0,.int .i64 0] 125 (0,0))/\(W2.alloc (.cells #[.int .i64 s,.string k,.int .i64 q] 149)).heap[W2.heap.size]?=some (.cells #[.int .i64 s,.string k,.int .i64 q] 149 (0,0))):=⟨⟨h,HR.out.step a2⟩,a3.out.trans (qp a2),qf a2 a6.out,heap_alloc_new _ _⟩
 generalize W2.alloc (.cells #[.int .i64 s,.string k,.int .i64 q] 149)=V0 at C ⊢
 obtain⟨H,p⟩:∃H,H=W2.heap.size:=⟨_,rfl⟩
 rw[<-p]at C ⊢;clear p a2 a5 HR a3 a6
 have t:Hid (∀{V V':World},V.heap[z]?=some (.cells #[.int .i64 0,.int .i64 0] 125 (0,0))/\V.heap[H]?=some (.cells #[.int .i64 s,.string k,.int .i64 q] 149 (0,0))->Keep V V'->V'.heap[z]?=some (.cells #[.int .i64 0,.int .i64 0] 125 (0,0))/\V'.heap[H]?=some (.cells #[.int .i64 s,.string k,.int .i64 q] 149 (0,0))):=fun hv o=>⟨o.loc _ _ _ hv.1 (by decide) (by decide) (by decide) (by decide),o.loc _ _ _ hv.2 (by decide) (by decide) (by decide) (by decide)⟩
 by_cases o:k=tTok
 ·have P:Hid (zm S=zt ki S.ws.length S.next):=by
   show _=_;unfold zm;rw[D.out];simp only;rw[if_pos o]
  have p:k=⟨#[37,116,111,107,101,110]⟩:=o
  have i:Hid (Calls Tryz.prog 121 #[.pointer (some ⟨d,0,none⟩),.string ⟨#[37,116,111,107,101,110]⟩] V0 fun e m=>e=.returned (.bool true)/\(∃c,RD w m d c S.next qs)/\Keep V0 m):=by
   obtain⟨c,f⟩:=C.out.1;exact kk ⟨#[37,116,111,107,101,110]⟩ xu w V0 d c S qs f (by rw[D.out];exact p)
  clear o p;go_wp2_with fail;refine i.out.mono ?_;rintro e Y ⟨rfl,a,b⟩
  have y:Hid ((∃c,RD w Y d c S.next qs)/\Keep W Y/\Y.heap[z]?=some (.cells #[.int .i64 0,.int .i64 0] 125 (0,0))/\Y.heap[H]?=some (.cells #[.int .i64 s,.string k,.int .i64 q] 149 (0,0))):=⟨a,C.out.2.1.trans b,t.out C.out.2.2 b⟩
  clear a b i
  have F:Hid (Calls Tryz.prog 137 #[.pointer (some ⟨d,0,none⟩),.func (.func 138) #[.pointer (some ⟨d,0,none⟩)] #[]] Y fun e m=>Did w Y d qs (zm S) e m):=by
   obtain⟨c,f⟩:=y.out.1;rw[P.out];exact qhs w _ d c S.next qs f S.ws.length a7.out
  go_wp2_with fail;refine F.out.mono ?_;intro e V hD;obtain⟨Z,G,rfl,l,j,u⟩:=hD;have n:=t.out y.out.2.2 j
  have A:Hid (RD w V d Z G qs/\Keep W V/\∀E,zm S=.ok E->G=E):=⟨l,y.out.2.1.trans j,u⟩
  obtain⟨q3,q4,z3,z4⟩:=zg n.1
  have R:Hid (Loc V z 125):=⟨_,n.1⟩
  obtain⟨g,B⟩:∃g,g=kf (zm S):=⟨_,rfl⟩
  have Q:Hid (kf (zm S)=g):=B.symm;rw[<-B];clear l j u n B F;obtain⟨U,X⟩:=g;unfold fv;simp only;go_wp2_with fail;refine bodyPost_ret (v:=.agg #[.int .i64 U,.int .i64 X]) (by simp[results,Tryz.results122,go_sem, *]) rfl ?_;exact zf A.out.1 A.out.2.1 R.out I.out O.out Q.out A.out.2.2
 ·have H0:Hid (¬k=tTok):=o
  have i:Hid (Calls Tryz.prog 121 #[.pointer (some ⟨d,0,none⟩),.string ⟨#[37,116,111,107,101,110]⟩] V0 fun e m=>e=.returned (.bool false)/\(∃c,RD w m d c S qs)/\Keep V0 m):=by
   obtain⟨c,f⟩:=C.out.1;exact kq ⟨#[37,116,111,107,101,110]⟩ xu w V0 d c S qs f (by rw[D.out];exact o)
  clear o;go_wp2_with fail;refine i.out.mono ?_;rintro e V1 ⟨rfl,a,b⟩
  have J:Hid ((∃c,RD w V1 d c S qs)/\Keep W V1/\V1.heap[z]?=some (.cells #[.int .i64 0,.int .i64 0] 125 (0,0))/\V1.heap[H]?=some (.cells #[.int .i64 s,.string k,.int .i64 q] 149 (0,0))):=⟨a,C.out.2.1.trans b,t.out C.out.2.2 b⟩
  clear a b i C
  by_cases o:k=qmm
  ·have P:Hid (zm S=kw ⟨s,k,q⟩ 1 S.next):=by
    show _=_;unfold zm;rw[D.out];simp only;rw[if_neg H0.out,if_pos o]
   have p:k=⟨#[37,108,101,102,116]⟩:=o
   have i:Hid (Calls Tryz.prog 121 #[.pointer (some ⟨d,0,none⟩),.string ⟨#[37,108,101,102,116]⟩] V1 fun e m=>e=.returned (.bool true)/\(∃c,RD w m d c S.next qs)/\Keep V1 m):=by
    obtain⟨c,f⟩:=J.out.1;exact kk ⟨#[37,108,101,102,116]⟩ xu w V1 d c S qs f (by rw[D.out];exact p)
   clear o p;go_wp2_with fail;refine i.out.mono ?_;rintro e Y ⟨rfl,a,b⟩
   have y:Hid ((∃c,RD w Y d c S.next qs)/\Keep W Y/\Y.heap[z]?=some (.cells #[.int .i64 0,.int .i64 0] 125 (0,0))/\Y.heap[H]?=some (.cells #[.int .i64 s,.string k,.int .i64 q] 149 (0,0))):=⟨a,J.out.2.1.trans b,t.out J.out.2.2 b⟩
   clear a b i
   have F:Hid (Calls Tryz.prog 139 #[.pointer (some ⟨d,0,none⟩),.agg #[.int .i64 s,.string k,.int .i64 q],.int .i64 1] Y fun e m=>Did w Y d qs (zm S) e m):=by
    obtain⟨c,f⟩:=y.out.1;rw[P.out];exact qbj 1 ⟨s,k,q⟩ w _ d c S.next qs f
   obtain⟨p0,p1,p2⟩:=yy y.out.2.2.2;go_wp2_with fail;refine F.out.mono ?_;clear p0 p1 p2;intro e V hD;obtain⟨Z,G,rfl,l,j,u⟩:=hD;have n:=t.out y.out.2.2 j
   have A:Hid (RD w V d Z G qs/\Keep W V/\∀E,zm S=.ok E->G=E):=⟨l,y.out.2.1.trans j,u⟩
   obtain⟨q3,q4,z3,z4⟩:=zg n.1
   have R:Hid (Loc V z 125):=⟨_,n.1⟩
   obtain⟨g,B⟩:∃g,g=kf (zm S):=⟨_,rfl⟩
   have Q:Hid (kf (zm S)=g):=B.symm;rw[<-B];clear l j u n B F;obtain⟨U,X⟩:=g;unfold fv;simp only;go_wp2_with fail;refine bodyPost_ret (v:=.agg #[.int .i64 U,.int .i64 X]) (by simp[results,Tryz.results122,go_sem, *]) rfl ?_;exact zf A.out.1 A.out.2.1 R.out I.out O.out Q.out A.out.2.2
  ·have H1:Hid (¬k=qmm):=o
   have i:Hid (Calls Tryz.prog 121 #[.pointer (some ⟨d,0,none⟩),.string ⟨#[37,108,101,102,116]⟩] V1 fun e m=>e=.returned (.bool false)/\(∃c,RD w m d c S qs)/\Keep V1 m):=by
    obtain⟨c,f⟩:=J.out.1;exact kq ⟨#[37,108,101,102,116]⟩ xu w V1 d c S qs f (by rw[D.out];exact o)
   clear o;go_wp2_with fail;refine i.out.mono ?_;rintro e V2 ⟨rfl,a,b⟩
   have K:Hid ((∃c,RD w V2 d c S qs)/\Keep W V2/\V2.heap[z]?=some (.cells #[.int .i64 0,.int .i64 0] 125 (0,0))/\V2.heap[H]?=some (.cells #[.int .i64 s,.string k,.int .i64 q] 149 (0,0))):=⟨a,J.out.2.1.trans b,t.out J.out.2.2 b⟩
   clear a b i J
   by_cases o:k=qjp
   ·have P:Hid (zm S=kw ⟨s,k,q⟩ 2 S.next):=by
     show _=_;unfold zm;rw[D.out];simp only;rw[if_neg H0.out,if_neg H1.out,if_pos o]
    have p:k=⟨#[37,114,105,103,104,116]⟩:=o
    have i:Hid (Calls Tryz.prog 121 #[.pointer (some ⟨d,0,none⟩),.string ⟨#[37,114,105,103,104,116]⟩] V2 fun e m=>e=.returned (.bool true)/\(∃c,RD w m d c S.next qs)/\Keep V2 m):=by
     obtain⟨c,f⟩:=K.out.1;exact kk ⟨#[37,114,105,103,104,116]⟩ xu w V2 d c S qs f (by rw[D.out];exact p)
    clear o p;go_wp2_with fail;refine i.out.mono ?_;rintro e Y ⟨rfl,a,b⟩
    have y:Hid ((∃c,RD w Y d c S.next qs)/\Keep W Y/\Y.heap[z]?=some (.cells #[.int .i64 0,.int .i64 0] 125 (0,0))/\Y.heap[H]?=some (.cells #[.int .i64 s,.string k,.int .i64 q] 149 (0,0))):=⟨a,K.out.2.1.trans b,t.out K.out.2.2 b⟩
    clear a b i
    have F:Hid (Calls Tryz.prog 139 #[.pointer (some ⟨d,0,none⟩),.agg #[.int .i64 s,.string k,.int .i64 q],.int .i64 2] Y fun e m=>Did w Y d qs (zm S) e m):=by
     obtain⟨c,f⟩:=y.out.1;rw[P.out];exact qbj 2 ⟨s,k,q⟩ w _ d c S.next qs f
    obtain⟨p0,p1,p2⟩:=yy y.out.2.2.2;go_wp2_with fail;refine F.out.mono ?_;clear p0 p1 p2;intro e V hD;obtain⟨Z,G,rfl,l,j,u⟩:=hD;have n:=t.out y.out.2.2 j
    have A:Hid (RD w V d Z G qs/\Keep W V/\∀E,zm S=.ok E->G=E):=⟨l,y.out.2.1.trans j,u⟩
    obtain⟨q3,q4,z3,z4⟩:=zg n.1
    have R:Hid (Loc V z 125):=⟨_,n.1⟩
    obtain⟨g,B⟩:∃g,g=kf (zm S):=⟨_,rfl⟩
    have Q:Hid (kf (zm S)=g):=B.symm;rw[<-B];clear l j u n B F;obtain⟨U,X⟩:=g;unfold fv;simp only;go_wp2_with fail;refine bodyPost_ret (v:=.agg #[.int .i64 U,.int .i64 X]) (by simp[results,Tryz.results122,go_sem, *]) rfl ?_;exact zf A.out.1 A.out.2.1 R.out I.out O.out Q.out A.out.2.2
   ·have H2:Hid (¬k=qjp):=o
    have i:Hid (Calls Tryz.prog 121 #[.pointer (some ⟨d,0,none⟩),.string ⟨#[37,114,105,103,104,116]⟩] V2 fun e m=>e=.returned (.bool false)/\(∃c,RD w m d c S qs)/\Keep V2 m):=by
     obtain⟨c,f⟩:=K.out.1;exact kq ⟨#[37,114,105,103,104,116]⟩ xu w V2 d c S qs f (by rw[D.out];exact o)
    clear o;go_wp2_with fail;refine i.out.mono ?_;rintro e V3 ⟨rfl,a,b⟩
    have L:Hid ((∃c,RD w V3 d c S qs)/\Keep W V3/\V3.heap[z]?=some (.cells #[.int .i64 0,.int .i64 0] 125 (0,0))/\V3.heap[H]?=some (.cells #[.int .i64 s,.string k,.int .i64 q] 149 (0,0))):=⟨a,K.out.2.1.trans b,t.out K.out.2.2 b⟩
    clear a b i K
    by_cases o:k=tNon
    ·have P:Hid (zm S=kw ⟨s,k,q⟩ 3 S.next):=by
      show _=_;unfold zm;rw[D.out];simp only;rw[if_neg H0.out,if_neg H1.out,if_neg H2.out,if_pos o]
     have p:k=⟨#[37,110,111,110,97,115,115,111,99]⟩:=o
     have i:Hid (Calls Tryz.prog 121 #[.pointer (some ⟨d,0,none⟩),.string ⟨#[37,110,111,110,97,115,115,111,99]⟩] V3 fun e m=>e=.returned (.bool true)/\(∃c,RD w m d c S.next qs)/\Keep V3 m):=by
      obtain⟨c,f⟩:=L.out.1;exact kk ⟨#[37,110,111,110,97,115,115,111,99]⟩ xu w V3 d c S qs f (by rw[D.out];exact p)
     clear o p;go_wp2_with fail;refine i.out.mono ?_;rintro e Y ⟨rfl,a,b⟩
     have y:Hid ((∃c,RD w Y d c S.next qs)/\Keep W Y/\Y.heap[z]?=some (.cells #[.int .i64 0,.int .i64 0] 125 (0,0))/\Y.heap[H]?=some (.cells #[.int .i64 s,.string k,.int .i64 q] 149 (0,0))):=⟨a,L.out.2.1.trans b,t.out L.out.2.2 b⟩
     clear a b i
     have F:Hid (Calls Tryz.prog 139 #[.pointer (some ⟨d,0,none⟩),.agg #[.int .i64 s,.string k,.int .i64 q],.int .i64 3] Y fun e m=>Did w Y d qs (zm S) e m):=by
      obtain⟨c,f⟩:=y.out.1;rw[P.out];exact qbj 3 ⟨s,k,q⟩ w _ d c S.next qs f
     obtain⟨p0,p1,p2⟩:=yy y.out.2.2.2;go_wp2_with fail;refine F.out.mono ?_;clear p0 p1 p2;intro e V hD;obtain⟨Z,G,rfl,l,j,u⟩:=hD;have n:=t.out y.out.2.2 j
     have A:Hid (RD w V d Z G qs/\Keep W V/\∀E,zm S=.ok E->G=E):=⟨l,y.out.2.1.trans j,u⟩
     obtain⟨q3,q4,z3,z4⟩:=zg n.1
     have R:Hid (Loc V z 125):=⟨_,n.1⟩
     obtain⟨g,B⟩:∃g,g=kf (zm S):=⟨_,rfl⟩
     have Q:Hid (kf (zm S)=g):=B.symm;rw[<-B];clear l j u n B F;obtain⟨U,X⟩:=g;unfold fv;simp only;go_wp2_with fail;refine bodyPost_ret (v:=.agg #[.int .i64 U,.int .i64 X]) (by simp[results,Tryz.results122,go_sem, *]) rfl ?_;exact zf A.out.1 A.out.2.1 R.out I.out O.out Q.out A.out.2.2
    ·have H3:Hid (¬k=tNon):=o
     have i:Hid (Calls Tryz.prog 121 #[.pointer (some ⟨d,0,none⟩),.string ⟨#[37,110,111,110,97,115,115,111,99]⟩] V3 fun e m=>e=.returned (.bool false)/\(∃c,RD w m d c S qs)/\Keep V3 m):=by
      obtain⟨c,f⟩:=L.out.1;exact kq ⟨#[37,110,111,110,97,115,115,111,99]⟩ xu w V3 d c S qs f (by rw[D.out];exact o)
     clear o;go_wp2_with fail;refine i.out.mono ?_;rintro e V4 ⟨rfl,a,b⟩
     have M:Hid ((∃c,RD w V4 d c S qs)/\Keep W V4/\V4.heap[z]?=some (.cells #[.int .i64 0,.int .i64 0] 125 (0,0))/\V4.heap[H]?=some (.cells #[.int .i64 s,.string k,.int .i64 q] 149 (0,0))):=⟨a,L.out.2.1.trans b,t.out L.out.2.2 b⟩
     clear a b i L
     by_cases o:k=qjq
     ·have P:Hid (zm S=vo ⟨s,k,q⟩ S.next):=by
       show _=_;unfold zm;rw[D.out];simp only;rw[if_neg H0.out,if_neg H1.out,if_neg H2.out,if_neg H3.out,if_pos o]
      have p:k=⟨#[37,115,116,97,114,116]⟩:=o
      have i:Hid (Calls Tryz.prog 121 #[.pointer (some ⟨d,0,none⟩),.string ⟨#[37,115,116,97,114,116]⟩] V4 fun e m=>e=.returned (.bool true)/\(∃c,RD w m d c S.next qs)/\Keep V4 m):=by
       obtain⟨c,f⟩:=M.out.1;exact kk ⟨#[37,115,116,97,114,116]⟩ xu w V4 d c S qs f (by rw[D.out];exact p)
      clear o p;go_wp2_with fail;refine i.out.mono ?_;rintro e Y ⟨rfl,a,b⟩
      have y:Hid ((∃c,RD w Y d c S.next qs)/\Keep W Y/\Y.heap[z]?=some (.cells #[.int .i64 0,.int .i64 0] 125 (0,0))/\Y.heap[H]?=some (.cells #[.int .i64 s,.string k,.int .i64 q] 149 (0,0))):=⟨a,M.out.2.1.trans b,t.out M.out.2.2 b⟩
      clear a b i
      have F:Hid (Calls Tryz.prog 140 #[.pointer (some ⟨d,0,none⟩),.agg #[.int .i64 s,.string k,.int .i64 q]] Y fun e m=>Did w Y d qs (zm S) e m):=by
       obtain⟨c,f⟩:=y.out.1;rw[P.out];exact qi6 ⟨s,k,q⟩ w _ d c S.next qs f
      obtain⟨p0,p1,p2⟩:=yy y.out.2.2.2;go_wp2_with fail;refine F.out.mono ?_;clear p0 p1 p2;intro e V hD;obtain⟨Z,G,rfl,l,j,u⟩:=hD;have n:=t.out y.out.2.2 j
      have A:Hid (RD w V d Z G qs/\Keep W V/\∀E,zm S=.ok E->G=E):=⟨l,y.out.2.1.trans j,u⟩
      obtain⟨q3,q4,z3,z4⟩:=zg n.1
      have R:Hid (Loc V z 125):=⟨_,n.1⟩
      obtain⟨g,B⟩:∃g,g=kf (zm S):=⟨_,rfl⟩
      have Q:Hid (kf (zm S)=g):=B.symm;rw[<-B];clear l j u n B F;obtain⟨U,X⟩:=g;unfold fv;simp only;go_wp2_with fail;refine bodyPost_ret (v:=.agg #[.int .i64 U,.int .i64 X]) (by simp[results,Tryz.results122,go_sem, *]) rfl ?_;exact zf A.out.1 A.out.2.1 R.out I.out O.out Q.out A.out.2.2
     ·have H4:Hid (¬k=qjq):=o
      have i:Hid (Calls Tryz.prog 121 #[.pointer (some ⟨d,0,none⟩),.string ⟨#[37,115,116,97,114,116]⟩] V4 fun e m=>e=.returned (.bool false)/\(∃c,RD w m d c S qs)/\Keep V4 m):=by
       obtain⟨c,f⟩:=M.out.1;exact kq ⟨#[37,115,116,97,114,116]⟩ xu w V4 d c S qs f (by rw[D.out];exact o)
      clear o;go_wp2_with fail;refine i.out.mono ?_;rintro e V5 ⟨rfl,a,b⟩
      have N:Hid ((∃c,RD w V5 d c S qs)/\Keep W V5/\V5.heap[z]?=some (.cells #[.int .i64 0,.int .i64 0] 125 (0,0))/\V5.heap[H]?=some (.cells #[.int .i64 s,.string k,.int .i64 q] 149 (0,0))):=⟨a,M.out.2.1.trans b,t.out M.out.2.2 b⟩
      clear a b i M
      by_cases o:k=tExp
      ·have P:Hid (zm S=jg ⟨s,k,q⟩ S.next):=by
        show _=_;unfold zm;rw[D.out];simp only;rw[if_neg H0.out,if_neg H1.out,if_neg H2.out,if_neg H3.out,if_neg H4.out,if_pos o]
       have p:k=⟨#[37,101,120,112,101,99,116]⟩:=o
       have i:Hid (Calls Tryz.prog 121 #[.pointer (some ⟨d,0,none⟩),.string ⟨#[37,101,120,112,101,99,116]⟩] V5 fun e m=>e=.returned (.bool true)/\(∃c,RD w m d c S.next qs)/\Keep V5 m):=by
        obtain⟨c,f⟩:=N.out.1;exact kk ⟨#[37,101,120,112,101,99,116]⟩ xu w V5 d c S qs f (by rw[D.out];exact p)
       clear o p;go_wp2_with fail;refine i.out.mono ?_;rintro e Y ⟨rfl,a,b⟩
       have y:Hid ((∃c,RD w Y d c S.next qs)/\Keep W Y/\Y.heap[z]?=some (.cells #[.int .i64 0,.int .i64 0] 125 (0,0))/\Y.heap[H]?=some (.cells #[.int .i64 s,.string k,.int .i64 q] 149 (0,0))):=⟨a,N.out.2.1.trans b,t.out N.out.2.2 b⟩
       clear a b i
       have F:Hid (Calls Tryz.prog 141 #[.pointer (some ⟨d,0,none⟩),.agg #[.int .i64 s,.string k,.int .i64 q]] Y fun e m=>Did w Y d qs (zm S) e m):=by
        obtain⟨c,f⟩:=y.out.1;rw[P.out];exact qhu ⟨s,k,q⟩ w _ d c S.next qs f
       obtain⟨p0,p1,p2⟩:=yy y.out.2.2.2;go_wp2_with fail;refine F.out.mono ?_;clear p0 p1 p2;intro e V hD;obtain⟨Z,G,rfl,l,j,u⟩:=hD;have n:=t.out y.out.2.2 j
       have A:Hid (RD w V d Z G qs/\Keep W V/\∀E,zm S=.ok E->G=E):=⟨l,y.out.2.1.trans j,u⟩
       obtain⟨q3,q4,z3,z4⟩:=zg n.1
       have R:Hid (Loc V z 125):=⟨_,n.1⟩
       obtain⟨g,B⟩:∃g,g=kf (zm S):=⟨_,rfl⟩
       have Q:Hid (kf (zm S)=g):=B.symm;rw[<-B];clear l j u n B F;obtain⟨U,X⟩:=g;unfold fv;simp only;go_wp2_with fail;refine bodyPost_ret (v:=.agg #[.int .i64 U,.int .i64 X]) (by simp[results,Tryz.results122,go_sem, *]) rfl ?_;exact zf A.out.1 A.out.2.1 R.out I.out O.out Q.out A.out.2.2
      ·have H5:Hid (¬k=tExp):=o
       have i:Hid (Calls Tryz.prog 121 #[.pointer (some ⟨d,0,none⟩),.string ⟨#[37,101,120,112,101,99,116]⟩] V5 fun e m=>e=.returned (.bool false)/\(∃c,RD w m d c S qs)/\Keep V5 m):=by
        obtain⟨c,f⟩:=N.out.1;exact kq ⟨#[37,101,120,112,101,99,116]⟩ xu w V5 d c S qs f (by rw[D.out];exact o)
       clear o;go_wp2_with fail;refine i.out.mono ?_;rintro e V6 ⟨rfl,a,b⟩
       have T:Hid ((∃c,RD w V6 d c S qs)/\Keep W V6/\V6.heap[z]?=some (.cells #[.int .i64 0,.int .i64 0] 125 (0,0))/\V6.heap[H]?=some (.cells #[.int .i64 s,.string k,.int .i64 q] 149 (0,0))):=⟨a,N.out.2.1.trans b,t.out N.out.2.2 b⟩
       clear a b i N
       have P:Hid (zm S=.error (zj ⟨s,k,q⟩)):=by
        show _=_;unfold zm;rw[D.out];simp only;rw[if_neg H0.out,if_neg H1.out,if_neg H2.out,if_neg H3.out,if_neg H4.out,if_neg H5.out]
       obtain⟨p0,p1,p2⟩:=yy T.out.2.2.2;go_wp2_with fail;refine(jo ⟨s,k,q⟩ _).mono ?_;rintro e V ⟨rfl,hB⟩;have HB:Hid (Below V6.heap.size V6 V):=hB;clear hB p0 p1 p2;obtain⟨q3,q4,z3,z4⟩:=zg (qf HB.out T.out.2.2.1);unfold fv zj;simp only;go_wp2_with fail;refine bodyPost_ret (v:=.agg #[.int .i64 1,.int .i64 q]) (by simp[results,Tryz.results122,go_sem, *]) rfl ?_;obtain⟨c,f⟩:=T.out.1;exact zf (f.step HB.out) (T.out.2.1.trans (qp HB.out)) ⟨_,qf HB.out T.out.2.2.1⟩ I.out O.out (by rw[P.out];rfl) (fun E h=>by rw[P.out]at h;cases h)
structure RDlt (B rb:Nat) (h:RHd) (qs:List (Ru × Option Addr × Nat)):Prop where
 rb:rb<B
 ta:∀i n c,(Value.slice h.ta n c).ownBlock=some i->i<B
 ra:∀i n c,(Value.slice h.ra n c).ownBlock=some i->i<B
 row:∀q∈qs,∀i n c,(Value.slice q.2.1 n c).ownBlock=some i->i<B
theorem qca{b:Option Addr}{n c f d i:Nat}(h:(Value.slice b n c).ownBlock=some i):(Value.slice b f d).ownBlock=some i:=by
 cases b with
 | none=>cases h
 | some a=>exact h
theorem RD.lt{w W:World}{b:Nat}{h:RHd}{S:St}{qs:List (Ru × Option Addr × Nat)}(r:RD w W b h S qs):RDlt W.heap.size b h qs :=
 ⟨(Array.getElem?_eq_some_iff.1 r.box).1,fun i _ _ a=>(World.ownsRow.lt r.tok i (qca a)).2,fun i _ _ a=>(World.ownsRow.lt r.rul i (qca a)).2,fun q c i _ _ a=>(World.ownsRow.lt (r.row q c) i (qca a)).2⟩
theorem RDlt.mono{B d f:Nat}{h b:RHd}{qs:List (Ru × Option Addr × Nat)}(l:RDlt B f h qs)(m:B<=d)(g:b.ta=h.ta)(j:b.ra=h.ra):RDlt d f b qs :=
 ⟨by have:=l.rb;omega,fun i n c a=>by rw[g]at a;have:=l.ta i n c a;omega,fun i n c a=>by rw[j]at a;have:=l.ra i n c a;omega,fun q k i n c a=>by have:=l.row q k i n c a;omega⟩
theorem RD.above{w V d:World}{c B:Nat}{h:RHd}{S:St}{qs:List (Ru × Option Addr × Nat)}(r:RD w V c h S qs)(l:RDlt B c h qs)(a:Below B V d)(g:w.heap.size<=B):RD w d c h S qs :=
 ⟨by rw[a.block c l.rb];exact r.box,r.wds,qh r.tok (fun i b=>a.block i (l.ta i _ _ b)),qh r.rul (fun i b=>a.block i (l.ra i _ _ b)),r.map,fun q f=>qh (r.row q f) (fun i b=>a.block i (l.row q f i _ _ b)),r.bel.trans (a.mono g),r.new,r.ok⟩
theorem qfy:∀{f:Nat} {l:List ByteArray} {S:St} {g:Flt},symP f l S=.error g->g.1=1
 | 0,l,S,g,h=>by cases h
 | f+1,l,S,g,h=>by
  unfold symP at h
  split at h
  ·split at h
   ·cases h;rfl
   ·exact qfy h
  ·cases h
def SymA (w W:World) (rb:Nat) (h:RHd) (qs:List (Ru × Option Addr × Nat)) (R:Except Flt (List ByteArray × St)) (e:Ending) (W':World):Prop :=
 match R with
 | .ok (l,S1)=>∃xa xc h1,e=.returned (.tuple #[.slice xa l.length xc,fv (0,0)])/\RD w W' rb h1 S1 qs/\h1.ta=h.ta/\h1.ra=h.ra/\OwnS W' W.heap.size (.slice xa l.length xc) l/\Kept (One rb) W W'
 | .error g=>e=.returned (.tuple #[.slice none 0 0,fv g])/\(∃h1 S1,RD w W' rb h1 S1 qs/\h1.ta=h.ta/\h1.ra=h.ra)/\Kept (One rb) W W'
theorem Kept.far{W a:World}{c b:Nat}(k:Kept (One c) W a)(d:W.heap.size<=b)(j:Nat)(u:Value):Kept (One c) W (a.setCell ⟨b,j,none⟩ u):=k.setCell _ _ (fun h=>by simp only at h;omega)
theorem qln(w W:World)(d:Nat)(h:RHd)(S:St)(qs:List (Ru × Option Addr × Nat))(r:RD w W d h S qs)(f0:Nat)(c7:S.ws.length<=f0):
  Calls Tryz.prog 160 #[.pointer (some ⟨d,0,none⟩)] W fun e W'=>SymA w W d h qs (symP f0 [] S) e W':=by
 have a3:(W.alloc (.cells #[.int .i64 0,.int .i64 0] 125)).heap[W.heap.size]?=some (.cells #[.int .i64 0,.int .i64 0] 125 (0,0)):=heap_alloc_new _ _
 have HR:Hid (RD w (W.alloc (.cells #[.int .i64 0,.int .i64 0] 125)) d h S qs/\RDlt (W.alloc (.cells #[.int .i64 0,.int .i64 0] 125)).heap.size d h qs):=⟨r.step (qb _ _),(r.step (qb _ _)).lt⟩
 have a1:Hid (w.heap.size<=W.heap.size/\d<W.heap.size):=⟨r.bel.size,(Array.getElem?_eq_some_iff.1 r.box).1⟩
 have H:Hid (Below W.heap.size W (W.alloc (.cells #[.int .i64 0,.int .i64 0] 125))):=qb _ _
 obtain⟨R,hR⟩:∃R,symP f0 [] S=R:=⟨_,rfl⟩
 rw[hR];have b3:Hid (symP f0 [] S=R):=hR;clear r hR;go_enter Tryz.func160,Tryz.ntmps160
 go_upto_block 0 with fail
 generalize W.alloc (.cells #[.int .i64 0,.int .i64 0] 125)=g at HR a3 H ⊢
 obtain⟨F,Q⟩:∃F,F=W.heap.size:=⟨_,rfl⟩
 rw[<-Q]at a3 ⊢
 have q:Hid (W.heap.size<=F/\d<F):=⟨Nat.le_of_eq Q.symm,by rw[Q];exact a1.out.2⟩
 have K:Hid (g.heap[F]?=some (.cells #[.int .i64 0,.int .i64 0] 125 (0,0))):=a3;clear a3 Q;go_wp2_with fail
 go_loopg [4] f0 (fun kx s4 wr=>∃(U:Option Addr) (m G f:Nat),s4=.slice U m G/\f<=kx/\Hid (∃l a b,m=l.length/\l.length<=20/\a.ws.length<=f/\RD w wr d b a qs/\b.ta=h.ta/\b.ra=h.ra/\Kept (One d) g wr/\OwnS wr g.heap.size (.slice U m G) l/\symP f l a=R))
 case atStart=>exact⟨none,0,0,f0,rfl,Nat.le_refl _,(⟨[],S,h,rfl,by decide,c7,HR.out.1,rfl,rfl,Kept.refl _ _,World.ownsRow_nil _ _ _ _,b3.out⟩:∃l a b,0=l.length/\l.length<=20/\a.ws.length<=f0/\RD w g d b a qs/\b.ta=h.ta/\b.ra=h.ra/\Kept (One d) g g/\OwnS g g.heap.size (.slice none 0 0) l/\symP f0 l a=R)⟩
 case round =>
  obtain⟨U,m,G,f,rfl,d3,J⟩:=hrel;obtain⟨l,a,b,hm,a5,a6,a4,b9,b8,b5,B,hN⟩:=J.out;clear J b3
  obtain⟨X,rfl⟩:∃X,f=X+1:=⟨f - 1,by have:=a4.ok.ends.pos;omega⟩
  have c4:m<=G/\G<=9223372036854775807:=by
   rw[hm]at B;obtain⟨ao,c,e,q1,q2,q3⟩:=zh B
   cases e
   unfold maxLen at q2;omega
  have M:Hid (∀V:World,Below wr.heap.size wr V->Calls Tryz.prog 123 #[.pointer (some ⟨d,0,none⟩)] V fun e W'=>e=.returned (wv a.hd)/\Below V.heap.size V W'):=fun V hV=>kp w V d b a qs (a4.step hV)
  have p:Hid (m=l.length/\l.length<=20/\a.ws.length<=X+1/\RD w wr d b a qs/\b.ta=h.ta/\b.ra=h.ra/\Kept (One d) g wr/\OwnS wr g.heap.size (.slice U m G) l):=⟨hm,a5,a6,a4,b9,b8,b5,B⟩
  have L:Hid (R=if a.hd.k=1 then (if l.length=20 then .error (zj a.hd) else symP X (l++[a.hd.t]) a.next) else .ok (l,a)):=hN.symm
  have d2:m<=20:=by omega
  clear hm a5 a6 a4 b9 b8 b5 B hN;unfold wv at M
  generalize hx:a.hd=x at *
  obtain⟨Z,s,ya⟩:=x;simp only at M L;have HX:Hid (a.hd=⟨Z,s,ya⟩):=hx;clear hx;have d0:=qf9 Z ya s;have d1:=qjr Z ya s;go_wp2_with fail;refine(M.out _ (Below.refl _ _)).mono ?_;rintro e W2 ⟨rfl,P⟩;have y:Hid (Below wr.heap.size wr W2):=P;clear P
  by_cases Y:Z=1
  ·have hq:(Z == 1)=true:=by simp[Y]
   have a0:Hid (R=if l.length=20 then .error (zj ⟨Z,s,ya⟩) else symP X (l++[s]) a.next):=by
    show _=_;have:=L.out;rw[if_pos Y]at this;exact this
   have HE:Hid (Ends a.ws.tail):=(p.out.2.2.2.1.ok.ends.tail_of_kind (by rw[show yv a.ws=⟨Z,s,ya⟩ from HX.out];simp only;rw[Y];decide)).2
   clear Y L
   by_cases O:m=20
   ·have c8:((m:Int) == 20)=true:=by simp[O]
    have HF:Hid (R=.error (zj ⟨Z,s,ya⟩)):=by
     show _=_;have:=a0.out;rw[if_pos (by rw[<-p.out.1];exact O)]at this
     exact this
    clear O a0;go_wp2_with fail;refine(M.out _ y.out).mono ?_;rintro e N ⟨rfl,P⟩;have I:Hid (Below wr.heap.size wr N):=qd y.out P;clear P;go_wp2_with fail;refine(jo ⟨Z,s,ya⟩ _).mono ?_;rintro e C ⟨rfl,P⟩;have b2:Hid (Below wr.heap.size wr C):=qd I.out P;clear P;have A:Kept (One d) g C:=p.out.2.2.2.2.2.2.1.trans (zk b2.out) (fun i _ D=>D)
    have t2:C.heap[F]?=some (.cells #[.int .i64 0,.int .i64 0] 125 (0,0)):=by
     rw[A.block F (Array.getElem?_eq_some_iff.1 K.out).1 (fun e=>by have:=q.out.2;unfold One at e;omega)]
     exact K.out
    obtain⟨q3,q4,z3,z4⟩:=zg t2
    have HL:Hid (Loc C F 125/\Kept (One d) W C):=⟨⟨_,t2⟩,(zk H.out).trans A (fun i _ D=>D)⟩
    clear t2 A;unfold fv zj;simp only;go_wp2_with fail;refine bodyPost_ret (v:=.tuple #[.slice none 0 0,.agg #[.int .i64 1,.int .i64 ya]]) (by simp[results,Tryz.results160,go_sem, *]) rfl ?_;rw[HF.out];refine⟨rfl,⟨b,a,?_,p.out.2.2.2.2.1,p.out.2.2.2.2.2.1⟩,(HL.out.2.far q.out.1 _ _).far q.out.1 _ _⟩;have hw:=a1.out.1;have hn:=q.out.1;exact((p.out.2.2.2.1.step b2.out).far HL.out.1 (by decide) (by omega)).far (HL.out.1.set _ _ _) (by decide) (by omega)
   ·have c8:((m:Int) == 20)=false:=by simp;omega
    have HF:Hid (symP X (l++[s]) a.next=R):=by
     show _=_;have:=a0.out;rw[if_neg (by rw[<-p.out.1];exact O)]at this
     exact this.symm
    clear a0;go_wp2_with fail;refine(M.out _ y.out).mono ?_;rintro e N ⟨rfl,P⟩;have I:Hid (Below wr.heap.size wr N):=qd y.out P;clear P;have T:OwnS N g.heap.size (.slice U m G) l:=p.out.2.2.2.2.2.2.2.below I.out;have c9:g.heap.size<=N.heap.size:=Nat.le_trans p.out.2.2.2.2.2.2.1.size I.out.size;obtain⟨ao,n,c,C,a8,hn,b7,z⟩:=(T.below (qb N (.cells #[.string s] 9))).addRow (vx N [s] (by simp)) (by simp;omega) (by have:=p.out.2.1;simp;omega) rfl
    have b0:=qd I.out (qb N (.cells #[.string s] 9));have b6:RDlt g.heap.size d b qs:=HR.out.2.mono (Nat.le_refl _) p.out.2.2.2.2.1 p.out.2.2.2.2.2.1;have c3:w.heap.size<=g.heap.size:=Nat.le_trans a1.out.1 H.out.size;have a7:RD w C d b a qs:=(p.out.2.2.2.1.step b0).above b6 z c3;have E:Kept (One d) g (N.alloc (.cells #[.string s] 9)):=p.out.2.2.2.2.2.2.1.trans (zk b0) (fun i _ D=>D)
    have b4:Kept (One d) g C:=⟨by rw[z.os];exact E.os,by rw[z.tape];exact E.tape,by rw[z.output];exact E.output,Nat.le_trans E.size z.size,fun k Y hS=>by rw[z.block k Y];exact E.block k Y hS⟩
    have c6:Hid (n=m+1):=by show _=_;rw[hn,List.length_append,p.out.1];rfl
    have H4:Hid (RD w C d b a qs/\Kept (One d) g C/\OwnS C g.heap.size (.slice ao n c) (l++[s])/\n=(l++[s]).length):=⟨a7,b4,b7,hn⟩
    have b1:(Builtin.append_ #[28,28] 28 #[.slice U m G,.slice (some ⟨N.heap.size,0,none⟩) 1 1]).run Tryz.prog (N.alloc (.cells #[.string s] 9))=.ok (.slice ao n c) C:=a8;clear a8 hn b7 z b0 b6 c3 a7 E b4 T c9;go_wp2_with(at_builtin;refine Lib.wpList_append_run _ rfl _ _ _ _ rfl _ _ rfl rfl _ _ b1 ?_)
    refine(qb1 w C d b a qs H4.out.1 HE.out).mono ?_;rintro e W5 ⟨rfl,a2⟩
    have c5:Hid (∃l a b,n=l.length/\l.length<=20/\a.ws.length<=X/\RD w W5 d b a qs/\b.ta=h.ta/\b.ra=h.ra/\Kept (One d) g W5/\OwnS W5 g.heap.size (.slice ao n c) l/\symP X l a=R):=by
     refine⟨l++[s],a.next,⟨b.wb,b.wo+3,b.wc - 1,b.ta,b.tc,b.ra,b.rc⟩,H4.out.2.2.2,?_,?_,?_,p.out.2.2.2.2.1,p.out.2.2.2.2.2.1,?_,?_,HF.out⟩
     ·rw[<-H4.out.2.2.2,c6.out];omega
     ·have b:=j4 p.out.2.2.2.1.ok;have h2:=p.out.2.2.1;omega
     ·rw[a2];exact H4.out.1.next HE.out
     ·rw[a2];exact H4.out.2.1.setCell ⟨d,0,none⟩ _ (fun _=>rfl)
     ·rw[a2];have ho:=H4.out.2.2.1;refine qh ho (fun i D=>Below.heap_setCell _ _ _ _ (qr (qx ho D) ⟨_,H4.out.1.box⟩ (by decide)))
    clear a2 H4 O;go_wp2_with fail;go_roundg X
    case measure=>omega
    case rel=>exact⟨ao,n,c,X,rfl,Nat.le_refl _,c5⟩
  ·have hq:(Z == 1)=false:=by simpa using Y
   have HF:Hid (R=.ok (l,a)):=by
    show _=_;have:=L.out;rw[if_neg Y]at this;exact this
   clear Y L;have A:Kept (One d) g W2:=p.out.2.2.2.2.2.2.1.trans (zk y.out) (fun i _ D=>D)
   have t2:W2.heap[F]?=some (.cells #[.int .i64 0,.int .i64 0] 125 (0,0)):=by
    rw[A.block F (Array.getElem?_eq_some_iff.1 K.out).1 (fun e=>by have:=q.out.2;unfold One at e;omega)]
    exact K.out
   obtain⟨q3,q4,z3,z4⟩:=zg t2
   have HL:Hid (Loc W2 F 125/\Kept (One d) W W2):=⟨⟨_,t2⟩,(zk H.out).trans A (fun i _ D=>D)⟩
   clear t2 A;go_wp2_with fail;refine bodyPost_ret (v:=.tuple #[.slice U m G,.agg #[.int .i64 0,.int .i64 0]]) (by simp[results,Tryz.results160,go_sem, *]) rfl ?_;rw[HF.out];have hw:=a1.out.1;have hn:=q.out.1;have hm:=p.out.1;have ho:OwnS W2 g.heap.size (.slice U m G) l:=p.out.2.2.2.2.2.2.2.below y.out;have Q:F<g.heap.size:=(Array.getElem?_eq_some_iff.1 K.out).1
   have a9:∀{V:World} {j:Nat} {u:Value},OwnS V g.heap.size (.slice U m G) l->OwnS (V.setCell ⟨F,j,none⟩ u) g.heap.size (.slice U m G) l:=fun {V j u} o=>qh o (fun i D=>Below.heap_setCell _ _ _ _ (fun e=>by simp only at e;have:=(World.ownsRow.lt o i D).1;omega))
   subst hm;refine⟨U,G,b,rfl,((p.out.2.2.2.1.step y.out).far HL.out.1 (by decide) (by omega)).far (HL.out.1.set _ _ _) (by decide) (by omega),p.out.2.2.2.2.1,p.out.2.2.2.2.2.1,zd (a9 (a9 ho)) H.out.size,(HL.out.2.far q.out.1 _ _).far q.out.1 _ _⟩
theorem RD.addRule{w W:World}{g:Nat}{h:RHd}{S:St}{qs:List (Ru × Option Addr × Nat)}(r:RD w W g h S qs)(u:Ru)(s:Option Addr)(t:Nat)(O:OwnS W w.heap.size (.slice s u.r.length t) u.r)(V:S.rs.length<100):
  ∃o m c f,(Builtin.append_ #[23,23] 23 #[.slice h.ra S.rs.length h.rc,.slice (some ⟨W.heap.size,0,none⟩) 1 1]).run Tryz.prog (W.alloc (.cells #[.string u.l,.slice s u.r.length t,.string u.p] 55))=.ok (.slice o m c) f/\m=S.rs.length+1/\f.heap[g]?=some (.cells (rdC h S) 139 (0,0)) /\
   RD w (f.setCell ⟨g,6,none⟩ (.slice o m c)) g ⟨h.wb,h.wo,h.wc,h.ta,h.tc,o,c⟩ (kg S u) (qs++[(u,s,t)])/\Keep W (f.setCell ⟨g,6,none⟩ (.slice o m c)):=by
 obtain⟨Q,C,F,G,H⟩:=info_parts Tryz.info55;have y:=qb W (.cells #[.string u.l,.slice s u.r.length t,.string u.p] 55);have d:=r.step y;have D:=O.below y
 have z:∀j v,(rulC [(u,s,t)])[j]?=some v->(W.alloc (.cells #[.string u.l,.slice s u.r.length t,.string u.p] 55)).cell? ((⟨W.heap.size,0,none⟩:Addr).add j)=some v:=by
  intro j v A;rw[Addr.add_lit,Nat.zero_add,World.cell?_alloc_mark,<-A];exact List.getElem?_toArray (xs:=rulC [(u,s,t)]) (i:=j)
 obtain⟨v',f,N,I,x,-⟩:=run_append_own (P:=Tryz.prog) (W.alloc (.cells #[.string u.l,.slice s u.r.length t,.string u.p] 55)) w.heap.size 23 23 55 Q _ 3 56 Tryz.underlying23 C F G H rfl (by decide) _ S.rs.length _ d.rul ⟨W.heap.size,0,none⟩ 1 1 (rulC [(u,s,t)]) rfl z
  (fun v A=>by simp[rulC]at A;rcases A with rfl | rfl | rfl <;> rfl) (by unfold maxLen;omega) (by omega) (by have:=d.bel.size;exact this)
 obtain⟨o,c,rfl,-⟩:=zh I
 have a:f.heap[g]?=some (.cells (rdC h S) 139 (0,0)):=by
  rw[x.block g (Array.getElem?_eq_some_iff.1 d.box).1 (fun e=>qr ⟨_,d.box⟩ (qx d.rul e.symm) (by decide) rfl)];exact d.box
 have far:∀{E k n:Nat} {v:Value} {cs:List Value},f.ownsRow w.heap.size E k v n cs->E≠139->(f.setCell ⟨g,6,none⟩ (.slice o (S.rs.length+1) c)).ownsRow w.heap.size E k v n cs:=by
  intro E k n v cs J K;exact qh J (fun i C=>Below.heap_setCell _ _ _ _ (qr (qx J C) ⟨_,a⟩ K))
 refine⟨o,_,c,f,N,rfl,a,⟨?_,r.wds,?_,?_,?_,fun q M=>?_,?_,r.new,?_⟩,?_⟩
 ·rw[setCell_eq_setRow f g 6 _ 139 (0,0) _ a]
  have e:(rdC h S).setIfInBounds 6 (.slice o (S.rs.length+1) c)=rdC ⟨h.wb,h.wo,h.wc,h.ta,h.tc,o,c⟩ (kg S u):=by
   unfold rdC kg;simp
  rw[e];exact setRow_heap _ _ _ _ 139 _ a
 ·exact far (qb2 d.tok d.rul (by decide) x) (by decide)
 ·refine far ?_ (by decide);unfold kg;simp only[List.length_append,List.length_cons,List.length_nil];rw[qe2];exact I
 ·unfold kg;simp only;rw[List.map_append,r.map];rfl
 ·rcases List.mem_append.1 M with h4 | h4
  ·exact far (qb2 (d.row q h4) d.rul (by decide) x) (by decide)
  ·rw[List.mem_singleton]at h4;subst h4;exact far (qb2 D d.rul (by decide) x) (by decide)
 ·exact(d.bel.grown x (d.bel.size) (fun k L=>(World.ownsRow.lt d.rul k L).1)).setCell (p:=⟨g,6,none⟩) r.new _
 ·refine⟨r.ok.ends,r.ok.nt,r.ok.nl,r.ok.lv,?_⟩;unfold kg;simp only[List.length_append,List.length_cons,List.length_nil];omega
 ·have R:Keep W f:=by
   refine(qp y).trans ⟨x.size,fun b c2 T B X Y U Z=>?_⟩;rw[x.block b (Array.getElem?_eq_some_iff.1 B).1 (fun e=>qr ⟨_,B⟩ (qx d.rul e.symm) U rfl)];exact B
  exact R.set ⟨_,a⟩ (.inl rfl) 6 _
def DidQ (w W:World) (rb:Nat) (R:Except Flt St) (e:Ending) (W':World):Prop :=
 ∃h' S' qs',e=.returned (fv (kf R))/\RD w W' rb h' S' qs'/\Keep W W'/\∀S1,R=.ok S1->S'=S1
theorem Did.q{w W a:World}{b:Nat}{qs:List (Ru × Option Addr × Nat)}{R:Except Flt St}{e:Ending}(d:Did w W b qs R e a):DidQ w W b R e a:=by
 obtain⟨f,c,g,h,i,j⟩:=d;exact⟨f,c,qs,g,h,i,j⟩
theorem Went.keepT{w W c:World}{f:Nat}{S:St}{qs:List (Ru × Option Addr × Nat)}(r:Went w W f S qs c){b:Nat}{o:Obj}(d:W.heap[b]?=some o)(a:b≠f):c.heap[b]?=some o:=by
 rw[r.2.block b (Array.getElem?_eq_some_iff.1 d).1 (fun e=>a e)];exact d
theorem qna{W:World}{b:Nat}{a c d:Value}(h:W.heap[b]?=some (.cells #[a,c,d] 55 (0,0))):W.cell? ⟨b,0,none⟩=some a/\W.cell? ⟨b,1,none⟩=some c/\W.cell? ⟨b,2,none⟩=some d/\W.frozen? ⟨b,2,none⟩=false :=
 ⟨by rw[qe h];rfl,by rw[qe h];rfl,by rw[qe h];rfl,qi h 2⟩
theorem qlo(b:ByteArray)(w W:World)(f:Nat)(h:RHd)(S:St)(qs:List (Ru × Option Addr × Nat))(r:RD w W f h S qs):
  Calls Tryz.prog 144 #[.pointer (some ⟨f,0,none⟩),.string b] W fun e W'=>DidQ w W f (altP b S) e W':=by
 have HR:Hid (RD w (W.alloc (.cells #[.int .i64 0,.int .i64 0] 125)) f h S qs):=r.step (qb _ _);have a2:Hid (w.heap.size<=W.heap.size):=r.bel.size;have c8:(W.alloc (.cells #[.int .i64 0,.int .i64 0] 125)).heap[W.heap.size]?=some (.cells #[.int .i64 0,.int .i64 0] 125 (0,0)):=heap_alloc_new _ _
 have a4:Hid (Keep W (W.alloc (.cells #[.int .i64 0,.int .i64 0] 125))/\W.heap.size<=(W.alloc (.cells #[.int .i64 0,.int .i64 0] 125)).heap.size):=⟨qp (qb _ _),(qb _ _).size⟩
 have f8:f<W.heap.size:=(Array.getElem?_eq_some_iff.1 r.box).1
 have g4:S.rs.length<=h.rc/\h.rc<=9223372036854775807:=by
  obtain⟨ao,c,e,q1,q2,q3⟩:=zh r.rul
  cases e
  unfold maxLen at q2;omega
 clear r;go_enter Tryz.func144,Tryz.ntmps144
 go_upto_region 1 with fail
 generalize W.alloc (.cells #[.int .i64 0,.int .i64 0] 125)=Q at HR c8 a4 ⊢
 obtain⟨nb,d5⟩:∃nb,nb=W.heap.size:=⟨_,rfl⟩
 rw[<-d5]at c8 ⊢;have a7:Hid (W.heap.size<=nb):=Nat.le_of_eq d5.symm
 have a1:Hid (nb≠f):=by show _≠_;omega
 have c3:Hid (Q.heap[nb]?=some (.cells #[.int .i64 0,.int .i64 0] 125 (0,0))):=c8;clear c8 d5 f8
 have b6:Q.cell? ⟨f,6,none⟩=some (.slice h.ra S.rs.length h.rc):=by rw[qe HR.out.box];rfl
 by_cases K:S.rs.length=100
 ·have hq:((S.rs.length:Int) == 100)=true:=by simp[K]
  have J:Hid (altP b S=.error (zj S.hd)):=by
   show _=_;unfold altP;rw[if_pos K]
  have d2:Hid (Calls Tryz.prog 123 #[.pointer (some ⟨f,0,none⟩)] Q fun e W'=>e=.returned (wv S.hd)/\Below Q.heap.size Q W'):=kp w Q f h S qs HR.out;unfold wv at d2;unfold zj at J
  generalize S.hd=x at *
  obtain⟨xk,xt,ya⟩:=x;simp only at d2 J;clear K
  generalize S.rs.length=rn at *
  go_wp2_with fail;refine d2.out.mono ?_;rintro e H ⟨rfl,hB⟩;have f7:Hid (Below Q.heap.size Q H):=hB;clear hB b6;go_wp2_with fail;refine(jo ⟨xk,xt,ya⟩ _).mono ?_;rintro e W3 ⟨rfl,hB⟩;have b9:Hid (Below Q.heap.size Q W3):=qd f7.out hB;clear hB;obtain⟨q3,q4,z3,z4⟩:=zg (qf b9.out c3.out);unfold fv zj;simp only;go_wp2_with fail;refine bodyPost_ret (v:=.agg #[.int .i64 1,.int .i64 ya]) (by simp[results,Tryz.results144,go_sem, *]) rfl ?_;exact(zf (HR.out.step b9.out) (a4.out.1.trans (qp b9.out)) ⟨_,qf b9.out c3.out⟩ a7.out a2.out (by rw[J.out];rfl) (fun d h=>by rw[J.out]at h;cases h)).q
 ·have hq:((S.rs.length:Int) == 100)=false:=by simp;omega
  have c4:Hid (altP b S=(match symP S.ws.length [] S with | .error e=>.error e | .ok (r,d)=>if d.hd.t=qjc then (match kv 1 d.next with | .error e=>.error e | .ok (w,S2)=>.ok (kg S2 ⟨b,r,w.t⟩)) else .ok (kg d ⟨b,r,⟨#[]⟩⟩))):=by
   show _=_;unfold altP;rw[if_neg K];rfl
  have a5:Hid (S.rs.length<100):=by have:=HR.out.ok.nr;show _<_;omega
  have d8:Hid (Calls Tryz.prog 160 #[.pointer (some ⟨f,0,none⟩)] Q fun e W'=>SymA w Q f h qs (symP S.ws.length [] S) e W'):=qln w Q f h S qs HR.out S.ws.length (Nat.le_refl _);clear K
  generalize d9:S.rs.length=rn at *
  go_wp2_with fail;refine d8.out.mono ?_;intro e H hA;clear d8 b6 hq
  cases hS:symP S.ws.length [] S with
  | error g =>
   rw[hS]at hA;obtain⟨rfl,⟨h1,d,G,b3,b0⟩,a9⟩:=hA;have f2:=qfy hS;obtain⟨g1,g2⟩:=g;simp only at f2;subst f2
   have J:Hid (altP b S=.error (1,g2)):=by
    show _=_;rw[c4.out,hS]
   have k:Went w Q f d qs H:=⟨⟨h1,G,fun _ _ r0=>by have e:=qcw HR.out r0;rw[b3,b0];exact e⟩,a9⟩
   have t2:=qf (qb H (.cells #[.int .i64 1,.int .i64 g2] 125)) (k.keepT c3.out a1.out);obtain⟨q3,q4,z3,z4⟩:=zg t2
   have HD:Hid (RD w (H.alloc (.cells #[.int .i64 1,.int .i64 g2] 125)) f h1 d qs/\Keep W (H.alloc (.cells #[.int .i64 1,.int .i64 g2] 125))/\Loc (H.alloc (.cells #[.int .i64 1,.int .i64 g2] 125)) nb 125):=⟨G.step (qb _ _),(a4.out.1.trans (k.keep ⟨_,HR.out.box⟩)).trans (qp (qb _ _)),⟨_,t2⟩⟩
   clear G a9 k t2 hS c4 b3 b0;unfold fv;simp only;go_wp2_with fail;refine bodyPost_ret (v:=.agg #[.int .i64 1,.int .i64 g2]) (by simp[results,Tryz.results144,go_sem, *]) rfl ?_;exact(zf HD.out.1 HD.out.2.1 HD.out.2.2 a7.out a2.out (by rw[J.out];rfl) (fun d h=>by rw[J.out]at h;cases h)).q
  | ok p =>
   obtain⟨l,d⟩:=p;rw[hS]at hA;obtain⟨z,A,h1,rfl,G,b3,b0,d1,a9⟩:=hA
   have k:Went w Q f d qs H:=⟨⟨h1,G,fun _ _ r0=>by have e:=qcw HR.out r0;rw[b3,b0];exact e⟩,a9⟩
   have c5:Hid (altP b S=if d.hd.t=qjc then (match kv 1 d.next with | .error e=>.error e | .ok (w,S2)=>.ok (kg S2 ⟨b,l,w.t⟩)) else .ok (kg d ⟨b,l,⟨#[]⟩⟩)):=by
    show _=_;rw[c4.out,hS]
   have d7:Hid (d.rs.length<100):=by
    have h0:=HR.out.map;have h1:=G.map;have h2:=a5.out;show _<_;rw[<-h1,List.length_map];rw[<-h0,List.length_map]at d9;omega
   obtain⟨V,hV⟩:∃V,V=(H.alloc (.cells #[.int .i64 0,.int .i64 0] 125)).alloc (.cells #[.string b,.slice z l.length A,.string ⟨#[]⟩] 55):=⟨_,rfl⟩
   have a8:Below H.heap.size H V:=by rw[hV];exact qd (qb _ _) (qb _ _)
   have b4:V.heap[H.heap.size+1]?=some (.cells #[.string b,.slice z l.length A,.string ⟨#[]⟩] 55 (0,0)):=by
    have:=heap_alloc_new (H.alloc (.cells #[.int .i64 0,.int .i64 0] 125)) (.cells #[.string b,.slice z l.length A,.string ⟨#[]⟩] 55);rw[qt]at this;rw[hV];exact this
   have o:Hid (RD w V f h1 d qs/\Keep W V/\V.heap[nb]?=some (.cells #[.int .i64 0,.int .i64 0] 125 (0,0))/\V.heap[H.heap.size+1]?=some (.cells #[.string b,.slice z l.length A,.string ⟨#[]⟩] 55 (0,0))/\OwnS V w.heap.size (.slice z l.length A) l/\H.heap.size+1≠f/\RDlt (H.heap.size+1) f h1 qs/\w.heap.size<=H.heap.size+1):=⟨G.step a8,(a4.out.1.trans (k.keep ⟨_,HR.out.box⟩)).trans (qp a8),qf a8 (k.keepT c3.out a1.out),b4,zd (d1.below a8) (Nat.le_trans a2.out a4.out.2),by have:=(Array.getElem?_eq_some_iff.1 G.box).1;omega,G.lt.mono (Nat.le_succ _) rfl rfl,Nat.le_succ_of_le G.bel.size⟩
   clear G b3 b0 d1 a9 k a8 b4 hS c4 a5 d9;unfold fv;simp only
   go_upto_region 7 with fail
   rw[<-hV];clear hV
   obtain⟨B,b4⟩:∃B,B=H.heap.size+1:=⟨_,rfl⟩
   rw[<-b4]at o ⊢;clear b4
   by_cases M:d.hd.t=qjc
   ·have P:Hid (Calls Tryz.prog 121 #[.pointer (some ⟨f,0,none⟩),.string ⟨#[37,112,114,101,99]⟩] V fun e W'=>e=.returned (.bool true)/\Went w V f (qaj ⟨#[37,112,114,101,99]⟩ d) qs W'):=qak ⟨#[37,112,114,101,99]⟩ xu w V f h1 d qs o.out.1 true ⟨fun _=>M,fun _=>rfl⟩;rw[qki (t:=⟨#[37,112,114,101,99]⟩) M]at P
    have c6:Hid (altP b S=(match kv 1 d.next with | .error e=>.error e | .ok (w,S2)=>.ok (kg S2 ⟨b,l,w.t⟩))):=by
     show _=_;have:=c5.out;rw[if_pos M]at this;exact this
    clear M c5;go_wp2_with fail;refine P.out.mono ?_;rintro e V2 ⟨rfl,k⟩
    have D:Hid ((∃u,RD w V2 f u d.next qs/\RDlt B f u qs)/\Keep W V2/\V2.heap[nb]?=some (.cells #[.int .i64 0,.int .i64 0] 125 (0,0))/\V2.heap[B]?=some (.cells #[.string b,.slice z l.length A,.string ⟨#[]⟩] 55 (0,0))/\OwnS V2 w.heap.size (.slice z l.length A) l/\B≠f/\w.heap.size<=B):=⟨(by
     obtain⟨⟨u,r',e'⟩,-⟩:=k;obtain⟨ea,eb⟩:=e' h1 d o.out.1
     exact⟨u,r',o.out.2.2.2.2.2.2.1.mono (Nat.le_refl _) ea eb⟩),o.out.2.1.trans (k.keep ⟨_,o.out.1.box⟩),k.keepT o.out.2.2.1 a1.out,k.keepT o.out.2.2.2.1 o.out.2.2.2.2.2.1,qh o.out.2.2.2.2.1 (fun i hi=>k.2.block i (World.ownsRow.lt o.out.2.2.2.2.1 i hi).2 (qr (qx o.out.2.2.2.2.1 hi) ⟨_,o.out.1.box⟩ (by decide))),o.out.2.2.2.2.2.1,o.out.2.2.2.2.2.2.2⟩
    clear k P o;obtain⟨h2,b1,d0⟩:=D.out.1;have C:Hid (Calls Tryz.prog 143 #[.pointer (some ⟨f,0,none⟩),.int .i64 1] V2 fun e W'=>e=.returned (.tuple #[wv (takeW 1 d.next),fv (jp 1 d.next)])/\Went w V2 f (takeS 1 d.next) qs W'):=jx 1 (by decide) w V2 f h2 d.next qs b1
    have a6:Hid (RD w V2 f h2 d.next qs/\RDlt B f h2 qs):=⟨b1,d0⟩
    clear b1 d0;unfold wv fv at C
    rcases ju 1 d.next with ⟨hk,hP,hW,hS2,hF⟩ | ⟨hk,hP,hF,hS2⟩
    ·rw[hW,hS2,hF]at C
     generalize hy:d.next.hd=y at *
     obtain⟨yk,n,ya⟩:=y;simp only at C
     have J:Hid (altP b S=.ok (kg d.next.next ⟨b,l,n⟩)):=by
      show _=_;rw[c6.out,hP]
     clear hk hP hW hS2 hF hy c6;go_wp2_with fail;refine C.out.mono ?_;rintro e V3 ⟨rfl,k⟩
     obtain⟨I,c7⟩:∃I,I=(V3.alloc (.cells #[.int .i64 yk,.string n,.int .i64 ya] 149)).alloc (.cells #[.int .i64 0,.int .i64 0] 125):=⟨_,rfl⟩
     have a3:Below V3.heap.size V3 I:=by rw[c7];exact qd (qb _ _) (qb _ _)
     have a0:I.heap[B]?=some (.cells #[.string b,.slice z l.length A,.string ⟨#[]⟩] 55 (0,0)):=qf a3 (k.keepT D.out.2.2.2.1 D.out.2.2.2.2.2.1);have U:OwnS I w.heap.size (.slice z l.length A) l:=OwnS.below (qh D.out.2.2.2.2.1 (fun i hi=>k.2.block i (World.ownsRow.lt D.out.2.2.2.2.1 i hi).2 (qr (qx D.out.2.2.2.2.1 hi) ⟨_,a6.out.1.box⟩ (by decide)))) a3;have f3:Keep W I:=(D.out.2.1.trans (k.keep ⟨_,a6.out.1.box⟩)).trans (qp a3);have d4:=qf a3 (k.keepT D.out.2.2.1 a1.out);have f1:Below B I (I.setCell ⟨B,2,none⟩ (.string n)):=(Below.refl _ _).setCell (p:=⟨B,2,none⟩) (Nat.le_refl _) _
     have m:∃u,RD w (I.setCell ⟨B,2,none⟩ (.string n)) f u d.next.next qs:=by
      obtain⟨⟨h3,r3,e3⟩,-⟩:=k;obtain⟨ea,eb⟩:=e3 h2 d.next a6.out.1;exact⟨h3,(r3.step a3).above (a6.out.2.mono (Nat.le_refl _) ea eb) f1 D.out.2.2.2.2.2.2⟩
     have f4:nb≠B:=qr ⟨_,d4⟩ ⟨_,a0⟩ (by decide)
     have f5:(I.setCell ⟨B,2,none⟩ (.string n)).heap[B]?=some (.cells #[.string b,.slice z l.length A,.string n] 55 (0,0)):=by
      rw[setCell_eq_setRow I B 2 _ 55 (0,0) _ a0];exact setRow_heap _ _ _ _ 55 _ a0
     have HX:Hid ((∃u,RD w (I.setCell ⟨B,2,none⟩ (.string n)) f u d.next.next qs)/\Keep W (I.setCell ⟨B,2,none⟩ (.string n))/\(I.setCell ⟨B,2,none⟩ (.string n)).heap[nb]?=some (.cells #[.int .i64 0,.int .i64 0] 125 (0,0))/\(I.setCell ⟨B,2,none⟩ (.string n)).heap[B]?=some (.cells #[.string b,.slice z l.length A,.string n] 55 (0,0))/\OwnS (I.setCell ⟨B,2,none⟩ (.string n)) w.heap.size (.slice z l.length A) l/\d.next.next.rs.length<100):=⟨m,f3.set ⟨_,a0⟩ (.inr (.inr (.inl rfl))) _ _,by rw[Below.heap_setCell _ _ _ _ f4];exact d4,f5,qh U (fun i hi=>Below.heap_setCell _ _ _ _ (qr (qx U hi) ⟨_,a0⟩ (by decide))),d7.out⟩
     obtain⟨-,-,v2,vf⟩:=qna a0;clear k C a3 a0 U f3 d4 f1 m f4 f5
     go_upto_region 11 with fail
     rw[<-c7]
     have y0:I.cell? ⟨V3.heap.size,1,none⟩=some (.string n):=by
      rw[c7];exact qo (by rw[World.cell?_alloc_mark];rfl) _
     clear c7
     go_upto_region 12 with fail
     obtain⟨X,f0⟩:∃X,X=I.setCell ⟨B,2,none⟩ (.string n):=⟨_,rfl⟩
     rw[<-f0]at HX ⊢;clear f0 v2 vf y0;obtain⟨L,m⟩:=HX.out.1;have F:d.next.next.rs.length<100:=HX.out.2.2.2.2.2;obtain⟨ao,mm,cc,Y,O,d3,E,N,T⟩:=(m.step (qk X)).addRule ⟨b,l,n⟩ z A HX.out.2.2.2.2.1 F
     have b6:X.cell? ⟨f,6,none⟩=some (.slice L.ra d.next.next.rs.length L.rc):=by rw[qe m.box];rfl
     obtain⟨u0,u1,u2,-⟩:=qna HX.out.2.2.2.1
     have d6:Y.cell? ⟨f,6,none⟩=some (.slice L.ra d.next.next.rs.length L.rc):=by rw[qe E];rfl
     have f6:Y.frozen? ⟨f,6,none⟩=false:=qi E 6;have j:(Builtin.append_ #[23,23] 23 #[.slice L.ra d.next.next.rs.length L.rc,.slice (some ⟨X.heap.size,0,none⟩) 1 1]).run Tryz.prog (X.alloc (.cells #[.string b,.slice z l.length A,.string n] 55)).drew=.ok (.slice ao mm cc) Y:=O
     have HY:Hid ((∃u s,RD w (Y.setCell ⟨f,6,none⟩ (.slice ao mm cc)) f u (kg d.next.next ⟨b,l,n⟩) s)/\Keep X (Y.setCell ⟨f,6,none⟩ (.slice ao mm cc))):=⟨⟨_,_,N⟩,T.size,T.loc⟩
     have b5:=qo u0 (.cells #[.string b,.slice z l.length A,.string n] 55);have b7:=qo u1 (.cells #[.string b,.slice z l.length A,.string n] 55);have b8:=qo u2 (.cells #[.string b,.slice z l.length A,.string n] 55);have R:=qo b6 (.cells #[.string b,.slice z l.length A,.string n] 55);clear O d3 E N T F m
     generalize L.ra=f9 at *
     generalize L.rc=g0 at *
     generalize d.next.next.rs.length=g3 at b6 d6 j R;generalize l.length=ln at j u1 b7 b5 b8 R
     go_cut [52] (fun s52 wd=>Hid ((∃u s,RD w wd f u (kg d.next.next ⟨b,l,n⟩) s)/\Keep X wd))
     case first =>
      go_region_law(refine zc rfl (.tmp 49) (.tmp 51) rfl rfl (by simp[Act.eval]) (by simp[Act.eval]) j ?_)
      all_goals (go_wp2_with fail;go_meet;exact HY)
     case rest =>
      obtain⟨Z,hZ⟩:∃Z,Z=wc:=⟨_,rfl⟩
      subst wc;have HZ:Hid ((∃u s,RD w Z f u (kg d.next.next ⟨b,l,n⟩) s)/\Keep X Z):=hcut;clear hcut HY j d6 f6 b6 R u0 u1 u2 b5 b7 b8;have t2:=HZ.out.2.loc _ _ _ HX.out.2.2.1 (by decide) (by decide) (by decide) (by decide);obtain⟨q3,q4,z3,z4⟩:=zg t2
      have HL:Hid (Loc Z nb 125):=⟨_,t2⟩
      clear t2;go_wp2_with fail;refine bodyPost_ret (v:=.agg #[.int .i64 0,.int .i64 0]) (by simp[results,Tryz.results144,go_sem, *]) rfl ?_;obtain⟨u,s,b2⟩:=HZ.out.1;exact(zf b2 (HX.out.2.1.trans HZ.out.2) HL.out a7.out a2.out (by rw[J.out];rfl) (fun d h=>by rw[J.out]at h;cases h;rfl)).q
    ·have J:Hid (altP b S=.error (zj d.next.hd)):=by
      show _=_;rw[c6.out,hP]
     rw[hF,hS2]at C;unfold zj at C J;generalize takeW 1 d.next=y at C
     generalize d.next.hd.a=fa at *
     obtain⟨yk,n,ya⟩:=y;simp only at C;clear hk hP hF hS2 c6;go_wp2_with fail;refine C.out.mono ?_;rintro e V3 ⟨rfl,k⟩;have c9:Below V3.heap.size V3 ((V3.alloc (.cells #[.int .i64 yk,.string n,.int .i64 ya] 149)).alloc (.cells #[.int .i64 1,.int .i64 fa] 125)):=qd (qb _ _) (qb _ _);have t2:=qf c9 (k.keepT D.out.2.2.1 a1.out);obtain⟨q3,q4,z3,z4⟩:=zg t2
     have HD:Hid ((∃u,RD w ((V3.alloc (.cells #[.int .i64 yk,.string n,.int .i64 ya] 149)).alloc (.cells #[.int .i64 1,.int .i64 fa] 125)) f u d.next qs)/\Keep W ((V3.alloc (.cells #[.int .i64 yk,.string n,.int .i64 ya] 149)).alloc (.cells #[.int .i64 1,.int .i64 fa] 125))/\Loc ((V3.alloc (.cells #[.int .i64 yk,.string n,.int .i64 ya] 149)).alloc (.cells #[.int .i64 1,.int .i64 fa] 125)) nb 125):=⟨(by
      obtain⟨h3,r3⟩:=k.rd
      exact⟨h3,r3.step c9⟩),(D.out.2.1.trans (k.keep ⟨_,a6.out.1.box⟩)).trans (qp c9),⟨_,t2⟩⟩
     clear k c9 t2 C;go_wp2_with fail;refine bodyPost_ret (v:=.agg #[.int .i64 1,.int .i64 fa]) (by simp[results,Tryz.results144,go_sem, *]) rfl ?_;obtain⟨h3,r3⟩:=HD.out.1;exact(zf r3 HD.out.2.1 HD.out.2.2 a7.out a2.out (by rw[J.out];rfl) (fun d h=>by rw[J.out]at h;cases h)).q
   ·have P:Hid (Calls Tryz.prog 121 #[.pointer (some ⟨f,0,none⟩),.string ⟨#[37,112,114,101,99]⟩] V fun e W'=>e=.returned (.bool false)/\Went w V f (qaj ⟨#[37,112,114,101,99]⟩ d) qs W'):=qak ⟨#[37,112,114,101,99]⟩ xu w V f h1 d qs o.out.1 false ⟨fun h=>(by cases h),fun h=>absurd h M⟩;rw[qmd (t:=⟨#[37,112,114,101,99]⟩) M]at P
    have J:Hid (altP b S=.ok (kg d ⟨b,l,⟨#[]⟩⟩)):=by
     show _=_;have:=c5.out;rw[if_neg M]at this;exact this
    clear M c5;go_wp2_with fail;refine P.out.mono ?_;rintro e X ⟨rfl,k⟩
    have HX:Hid ((∃u,RD w X f u d qs)/\Keep W X/\X.heap[nb]?=some (.cells #[.int .i64 0,.int .i64 0] 125 (0,0))/\X.heap[B]?=some (.cells #[.string b,.slice z l.length A,.string ⟨#[]⟩] 55 (0,0))/\OwnS X w.heap.size (.slice z l.length A) l/\d.rs.length<100):=⟨k.rd,o.out.2.1.trans (k.keep ⟨_,o.out.1.box⟩),k.keepT o.out.2.2.1 a1.out,k.keepT o.out.2.2.2.1 o.out.2.2.2.2.2.1,qh o.out.2.2.2.2.1 (fun i hi=>k.2.block i (World.ownsRow.lt o.out.2.2.2.2.1 i hi).2 (qr (qx o.out.2.2.2.2.1 hi) ⟨_,o.out.1.box⟩ (by decide))),d7.out⟩
    clear k P o;obtain⟨L,m⟩:=HX.out.1;have F:d.rs.length<100:=HX.out.2.2.2.2.2;obtain⟨ao,mm,cc,Y,O,d3,E,N,T⟩:=(m.step (qk X)).addRule ⟨b,l,⟨#[]⟩⟩ z A HX.out.2.2.2.2.1 F
    have b6:X.cell? ⟨f,6,none⟩=some (.slice L.ra d.rs.length L.rc):=by rw[qe m.box];rfl
    obtain⟨u0,u1,u2,-⟩:=qna HX.out.2.2.2.1
    have d6:Y.cell? ⟨f,6,none⟩=some (.slice L.ra d.rs.length L.rc):=by rw[qe E];rfl
    have f6:Y.frozen? ⟨f,6,none⟩=false:=qi E 6;have j:(Builtin.append_ #[23,23] 23 #[.slice L.ra d.rs.length L.rc,.slice (some ⟨X.heap.size,0,none⟩) 1 1]).run Tryz.prog (X.alloc (.cells #[.string b,.slice z l.length A,.string ⟨#[]⟩] 55)).drew=.ok (.slice ao mm cc) Y:=O
    have HY:Hid ((∃u s,RD w (Y.setCell ⟨f,6,none⟩ (.slice ao mm cc)) f u (kg d ⟨b,l,⟨#[]⟩⟩) s)/\Keep X (Y.setCell ⟨f,6,none⟩ (.slice ao mm cc))):=⟨⟨_,_,N⟩,T.size,T.loc⟩
    have b5:=qo u0 (.cells #[.string b,.slice z l.length A,.string ⟨#[]⟩] 55);have b7:=qo u1 (.cells #[.string b,.slice z l.length A,.string ⟨#[]⟩] 55);have b8:=qo u2 (.cells #[.string b,.slice z l.length A,.string ⟨#[]⟩] 55);have R:=qo b6 (.cells #[.string b,.slice z l.length A,.string ⟨#[]⟩] 55);clear O d3 E N T F m
    generalize L.ra=f9 at *
    generalize L.rc=g0 at *
    generalize d.rs.length=g3 at b6 d6 j R;generalize l.length=ln at j u1 b7 b5 b8 R
    go_upto_region 12 with fail
    go_cut [52] (fun s52 wd=>Hid ((∃u s,RD w wd f u (kg d ⟨b,l,⟨#[]⟩⟩) s)/\Keep X wd))
    case first =>
     go_region_law(refine zc rfl (.tmp 49) (.tmp 51) rfl rfl (by simp[Act.eval]) (by simp[Act.eval]) j ?_)
     all_goals (go_wp2_with fail;go_meet;exact HY)
    case rest =>
     obtain⟨Z,hZ⟩:∃Z,Z=wc:=⟨_,rfl⟩
     subst wc;have HZ:Hid ((∃u s,RD w Z f u (kg d ⟨b,l,⟨#[]⟩⟩) s)/\Keep X Z):=hcut;clear hcut HY j d6 f6 b6 R u0 u1 u2 b5 b7 b8;have t2:=HZ.out.2.loc _ _ _ HX.out.2.2.1 (by decide) (by decide) (by decide) (by decide);obtain⟨q3,q4,z3,z4⟩:=zg t2
     have HL:Hid (Loc Z nb 125):=⟨_,t2⟩
     clear t2;go_wp2_with fail;refine bodyPost_ret (v:=.agg #[.int .i64 0,.int .i64 0]) (by simp[results,Tryz.results144,go_sem, *]) rfl ?_;obtain⟨u,s,b2⟩:=HZ.out.1;exact(zf b2 (HX.out.2.1.trans HZ.out.2) HL.out a7.out a2.out (by rw[J.out];rfl) (fun d h=>by rw[J.out]at h;cases h;rfl)).q
theorem qbv(S:St):S.next.ws.length<=S.ws.length:=by
 show S.ws.tail.length<=_;rw[List.length_tail];omega
theorem qkk:∀{f:Nat} {l l':List ByteArray} {S a:St},symP f l S=.ok (l',a)->a.ws.length<=S.ws.length
 | 0,l,l',S,a,h=>by cases h;exact Nat.le_refl _
 | f+1,l,l',S,a,h=>by
  unfold symP at h
  split at h
  ·split at h
   ·cases h
   ·exact Nat.le_trans (qkk h) (qbv S)
  ·cases h;exact Nat.le_refl _
theorem qco{k:Int}{S a:St}{x:Wd}(h:kv k S=.ok (x,a)):a.ws.length<=S.ws.length:=by
 unfold kv at h
 split at h
 ·cases h;exact qbv S
 ·cases h
theorem qkl{a:ByteArray}{S b:St}(h:altP a S=.ok b):b.ws.length<=S.ws.length:=by
 unfold altP at h
 split at h
 ·cases h
 ·split at h
  ·cases h
  ·rename_i r S2 h2;have c:=qkk h2
   split at h
   ·split at h
    ·cases h
    ·rename_i x S3 h3
     cases h
     show S3.ws.length<=_;exact Nat.le_trans (qco h3) (Nat.le_trans (qbv S2) c)
   ·cases h
    exact c
theorem qkm{a:ByteArray}{S:St}{g:Flt}(h:altP a S=.error g):g.1=1:=by
 unfold altP at h
 split at h
 ·cases h;rfl
 ·split at h
  ·rename_i g' h2
   cases h
   exact qfy h2
  ·split at h
   ·split at h
    ·rename_i g' h3
     cases h
     rw[(qbb h3).2];rfl
    ·cases h
   ·cases h
theorem qkn(w W:World)(c:Nat)(h:RHd)(S:St)(qs:List (Ru × Option Addr × Nat))(r:RD w W c h S qs):
  Calls Tryz.prog 124 #[.pointer (some ⟨c,0,none⟩)] W fun e n=>DidQ w W c (jh S) e n:=by
 have HR:Hid (RD w (W.alloc (.cells #[.int .i64 0,.int .i64 0] 125)) c h S qs):=r.step (qb _ _);have Q:Hid (w.heap.size<=W.heap.size):=r.bel.size;have a8:(W.alloc (.cells #[.int .i64 0,.int .i64 0] 125)).heap[W.heap.size]?=some (.cells #[.int .i64 0,.int .i64 0] 125 (0,0)):=heap_alloc_new _ _;have b5:Hid (Keep W (W.alloc (.cells #[.int .i64 0,.int .i64 0] 125))):=qp (qb _ _);clear r;go_enter Tryz.func124,Tryz.ntmps124
 go_upto_region 1 with fail
 generalize W.alloc (.cells #[.int .i64 0,.int .i64 0] 125)=W1 at HR a8 b5 ⊢
 obtain⟨s,c4⟩:∃s,s=W.heap.size:=⟨_,rfl⟩
 rw[<-c4]at a8 ⊢;have N:Hid (W.heap.size<=s):=Nat.le_of_eq c4.symm;have c5:Hid (W1.heap[s]?=some (.cells #[.int .i64 0,.int .i64 0] 125 (0,0))):=a8;clear a8 c4;have O:Hid (Calls Tryz.prog 143 #[.pointer (some ⟨c,0,none⟩),.int .i64 1] W1 fun e n=>e=.returned (.tuple #[wv (takeW 1 S),fv (jp 1 S)])/\Went w W1 c (takeS 1 S) qs n):=jx 1 (by decide) w W1 c h S qs HR.out;unfold wv fv at O
 rcases ju 1 S with ⟨l,hP,hW,hS,hF⟩ | ⟨l,hP,hF,hS⟩
 ·rw[hW,hS,hF]at O
  generalize hx:S.hd=x at *
  obtain⟨M,o,L⟩:=x;simp only at O
  have a7:Hid (jh S=if S.next.hd.t=tCol then ji o S.next.ws.length S.next.next else .error (zj S.next.hd)):=by
   show _=_;unfold jh;rw[hP]
  clear l hP hW hS hF hx;go_wp2_with fail;refine O.out.mono ?_;rintro e W2 ⟨rfl,hw⟩
  obtain⟨V,hV⟩:∃V,V=(W2.alloc (.cells #[.int .i64 M,.string o,.int .i64 L] 149)).alloc (.cells #[.int .i64 0,.int .i64 0] 125):=⟨_,rfl⟩
  have c3:Below W2.heap.size W2 V:=by rw[hV];exact qd (qb _ _) (qb _ _)
  have a2:V.heap[W2.heap.size]?=some (.cells #[.int .i64 M,.string o,.int .i64 L] 149 (0,0)):=by
   rw[hV];exact qf (qb _ _) (heap_alloc_new _ _)
  have G:Keep W1 V:=(hw.keep ⟨_,HR.out.box⟩).trans (qp c3);obtain⟨h2,b2⟩:=hw.rd
  have HV:Hid (RD w V c h2 S.next qs/\Keep W V/\V.heap[s]?=some (.cells #[.int .i64 0,.int .i64 0] 125 (0,0))/\V.heap[W2.heap.size]?=some (.cells #[.int .i64 M,.string o,.int .i64 L] 149 (0,0))):=⟨b2.step c3,b5.out.trans G,G.loc _ _ _ c5.out (by decide) (by decide) (by decide) (by decide),a2⟩
  clear hw c3 a2 G b2 O
  go_upto_region 4 with fail
  rw[<-hV];clear hV
  obtain⟨lb,a2⟩:∃lb,lb=W2.heap.size:=⟨_,rfl⟩
  rw[<-a2]at HV ⊢;clear a2
  have D:Hid (∀{X X':World},X.heap[s]?=some (.cells #[.int .i64 0,.int .i64 0] 125 (0,0))/\X.heap[lb]?=some (.cells #[.int .i64 M,.string o,.int .i64 L] 149 (0,0))->Keep X X'->X'.heap[s]?=some (.cells #[.int .i64 0,.int .i64 0] 125 (0,0))/\X'.heap[lb]?=some (.cells #[.int .i64 M,.string o,.int .i64 L] 149 (0,0))):=fun hv l=>⟨l.loc _ _ _ hv.1 (by decide) (by decide) (by decide) (by decide),l.loc _ _ _ hv.2 (by decide) (by decide) (by decide) (by decide)⟩
  by_cases hc:S.next.hd.t=tCol
  ·have d:Hid (Calls Tryz.prog 121 #[.pointer (some ⟨c,0,none⟩),.string ⟨#[58]⟩] V fun e n=>e=.returned (.bool true)/\(∃i,RD w n c i S.next.next qs)/\Keep V n):=kk ⟨#[58]⟩ xu w V c h2 S.next qs HV.out.1 hc
   obtain⟨R,hR⟩:∃R,ji o S.next.ws.length S.next.next=R:=⟨_,rfl⟩
   have b7:Hid (jh S=R):=by
    show _=_;have:=a7.out;rw[if_pos hc,hR]at this;exact this
   have b8:Hid (ji o S.next.ws.length S.next.next=R):=hR;have b6:Hid (S.next.next.ws.length<=S.next.ws.length):=qbv _;clear hc a7 hR;go_wp2_with fail;refine d.out.mono ?_;rintro e V2 ⟨rfl,b,l⟩
   have P:Hid ((∃i,RD w V2 c i S.next.next qs)/\Keep W V2/\V2.heap[s]?=some (.cells #[.int .i64 0,.int .i64 0] 125 (0,0))/\V2.heap[lb]?=some (.cells #[.int .i64 M,.string o,.int .i64 L] 149 (0,0))):=⟨b,HV.out.2.1.trans l,D.out HV.out.2.2 l⟩
   clear b l d HV
   obtain⟨f0,c7⟩:∃f0,f0=S.next.ws.length:=⟨_,rfl⟩
   rw[<-c7]at b8 b6;clear c7;go_wp2_with fail
   go_loopg [5] f0 (fun kx s5 wr=>∃f,f<=kx/\Hid (∃p,p.ws.length<=f/\(∃i a4,RD w wr c i p a4)/\Keep W wr/\wr.heap[s]?=some (.cells #[.int .i64 0,.int .i64 0] 125 (0,0))/\wr.heap[lb]?=some (.cells #[.int .i64 M,.string o,.int .i64 L] 149 (0,0))/\ji o f p=R))
   case atStart =>
    refine⟨f0,Nat.le_refl _,?_⟩;obtain⟨i,b⟩:=P.out.1;exact(⟨S.next.next,b6.out,⟨i,qs,b⟩,P.out.2.1,P.out.2.2.1,P.out.2.2.2,b8.out⟩:∃p,p.ws.length<=f0/\(∃i a4,RD w V2 c i p a4)/\Keep W V2/\V2.heap[s]?=some (.cells #[.int .i64 0,.int .i64 0] 125 (0,0))/\V2.heap[lb]?=some (.cells #[.int .i64 M,.string o,.int .i64 L] 149 (0,0))/\ji o f0 p=R)
   case round =>
    obtain⟨f,d3,J⟩:=hrel;obtain⟨p,b0,⟨h1,d2,b⟩,c8,b1,a3,hN⟩:=J.out;clear J b8 b6 P
    obtain⟨I,rfl⟩:∃I,f=I+1:=⟨f - 1,by have:=b.ok.ends.pos;omega⟩
    have HA:Hid (Calls Tryz.prog 144 #[.pointer (some ⟨c,0,none⟩),.string o] wr fun e n=>DidQ w wr c (altP o p) e n):=qlo o w wr c h1 p d2 b
    have HJ:Hid (p.ws.length<=I+1/\Keep W wr/\wr.heap[s]?=some (.cells #[.int .i64 0,.int .i64 0] 125 (0,0))/\wr.heap[lb]?=some (.cells #[.int .i64 M,.string o,.int .i64 L] 149 (0,0))/\ji o (I+1) p=R):=⟨b0,c8,b1,a3,hN⟩
    obtain⟨-,p1,-⟩:=yy a3;clear b0 b c8 b1 a3 hN;go_wp2_with fail;refine HA.out.mono ?_;intro e F hD;obtain⟨h3,j,k,rfl,b3,a1,b9⟩:=hD;have c6:=D.out ⟨HJ.out.2.2.1,HJ.out.2.2.2.1⟩ a1
    have C:Hid (RD w F c h3 j k/\Keep W F/\F.heap[s]?=some (.cells #[.int .i64 0,.int .i64 0] 125 (0,0))/\F.heap[lb]?=some (.cells #[.int .i64 M,.string o,.int .i64 L] 149 (0,0))):=⟨b3,HJ.out.2.1.trans a1,c6⟩
    clear b3 a1 c6 HA p1
    cases hA:altP o p with
    | error g =>
     have hg:=qkm hA;obtain⟨g1,g2⟩:=g;simp only at hg;subst hg
     have A:Hid (R=.error (1,g2)):=by
      show _=_;rw[<-HJ.out.2.2.2.2]
      conv=>lhs;unfold ji
      rw[hA]
     have t2:=qf (qb F (.cells #[.int .i64 1,.int .i64 g2] 125)) C.out.2.2.1;obtain⟨q3,q4,z3,z4⟩:=zg t2
     have HL:Hid (Loc (F.alloc (.cells #[.int .i64 1,.int .i64 g2] 125)) s 125):=⟨_,t2⟩
     clear hA b9 t2;unfold kf fv;simp only;go_wp2_with fail;refine bodyPost_ret (v:=.agg #[.int .i64 1,.int .i64 g2]) (by simp[results,Tryz.results124,go_sem, *]) rfl ?_;rw[b7.out];exact(zf (C.out.1.step (qb _ _)) (C.out.2.1.trans (qp (qb _ _))) HL.out N.out Q.out (by rw[A.out];rfl) (fun p h=>by rw[A.out]at h;cases h)).q
    | ok S4 =>
     have e3:j=S4:=b9 S4 hA;subst e3
     have a5:Hid (R=if j.hd.t=qmn then .ok j.next else if j.hd.t=tBar then ji o I j.next else .error (zj j.hd)):=by
      show _=_;rw[<-HJ.out.2.2.2.2]
      conv=>lhs;unfold ji
      rw[hA]
     have d0:Hid (j.ws.length<=I+1):=Nat.le_trans (qkl hA) HJ.out.1;clear hA b9;unfold kf fv;simp only;have a0:=qb F (.cells #[.int .i64 0,.int .i64 0] 125)
     have E:Hid (RD w (F.alloc (.cells #[.int .i64 0,.int .i64 0] 125)) c h3 j k/\Keep W (F.alloc (.cells #[.int .i64 0,.int .i64 0] 125))/\(F.alloc (.cells #[.int .i64 0,.int .i64 0] 125)).heap[s]?=some (.cells #[.int .i64 0,.int .i64 0] 125 (0,0))/\(F.alloc (.cells #[.int .i64 0,.int .i64 0] 125)).heap[lb]?=some (.cells #[.int .i64 M,.string o,.int .i64 L] 149 (0,0))):=⟨C.out.1.step a0,C.out.2.1.trans (qp a0),qf a0 C.out.2.2.1,qf a0 C.out.2.2.2⟩
     clear a0
     by_cases hs:j.hd.t=qmn
     ·have d:Hid (Calls Tryz.prog 121 #[.pointer (some ⟨c,0,none⟩),.string ⟨#[59]⟩] (F.alloc (.cells #[.int .i64 0,.int .i64 0] 125)) fun e n=>e=.returned (.bool true)/\(∃i,RD w n c i j.next k)/\Keep (F.alloc (.cells #[.int .i64 0,.int .i64 0] 125)) n):=kk ⟨#[59]⟩ xu w _ c h3 j k E.out.1 hs
      have A:Hid (R=.ok j.next):=by
       show _=_;have:=a5.out;rw[if_pos hs]at this;exact this
      clear hs a5;go_wp2_with fail;refine d.out.mono ?_;rintro e Y ⟨rfl,b,l⟩
      have T:Hid ((∃i,RD w Y c i j.next k)/\Keep W Y/\Y.heap[s]?=some (.cells #[.int .i64 0,.int .i64 0] 125 (0,0))):=⟨b,E.out.2.1.trans l,(D.out E.out.2.2 l).1⟩
      clear b l d;obtain⟨q3,q4,z3,z4⟩:=zg T.out.2.2;go_wp2_with fail;refine bodyPost_ret (v:=.agg #[.int .i64 0,.int .i64 0]) (by simp[results,Tryz.results124,go_sem, *]) rfl ?_;rw[b7.out];obtain⟨i,b⟩:=T.out.1;exact(zf b T.out.2.1 ⟨_,T.out.2.2⟩ N.out Q.out (by rw[A.out];rfl) (fun p h=>by rw[A.out]at h;cases h;rfl)).q
     ·have d:Hid (Calls Tryz.prog 121 #[.pointer (some ⟨c,0,none⟩),.string ⟨#[59]⟩] (F.alloc (.cells #[.int .i64 0,.int .i64 0] 125)) fun e n=>e=.returned (.bool false)/\(∃i,RD w n c i j k)/\Keep (F.alloc (.cells #[.int .i64 0,.int .i64 0] 125)) n):=kq ⟨#[59]⟩ xu w _ c h3 j k E.out.1 hs
      have a6:Hid (R=if j.hd.t=tBar then ji o I j.next else .error (zj j.hd)):=by
       show _=_;have:=a5.out;rw[if_neg hs]at this;exact this
      clear hs a5;go_wp2_with fail;refine d.out.mono ?_;rintro e Y ⟨rfl,b,l⟩
      have T:Hid ((∃i,RD w Y c i j k)/\Keep W Y/\Y.heap[s]?=some (.cells #[.int .i64 0,.int .i64 0] 125 (0,0))/\Y.heap[lb]?=some (.cells #[.int .i64 M,.string o,.int .i64 L] 149 (0,0))):=⟨b,E.out.2.1.trans l,D.out E.out.2.2 l⟩
      clear b l d E;obtain⟨h4,B⟩:=T.out.1
      by_cases K:j.hd.t=tBar
      ·have d:Hid (Calls Tryz.prog 121 #[.pointer (some ⟨c,0,none⟩),.string ⟨#[124]⟩] Y fun e n=>e=.returned (.bool true)/\(∃i,RD w n c i j.next k)/\Keep Y n):=kk ⟨#[124]⟩ xu w Y c h4 j k B K
       have A:Hid (ji o I j.next=R):=by
        show _=_;have:=a6.out;rw[if_pos K]at this;exact this.symm
       have d1:Hid (j.next.ws.length<=I):=by
        have h1:=j4 B.ok;have h2:=d0.out;show _<=_;omega
       clear K a6 B;go_wp2_with fail;refine d.out.mono ?_;rintro e Z ⟨rfl,b,l⟩
       have H:Hid (∃p,p.ws.length<=I/\(∃i a4,RD w Z c i p a4)/\Keep W Z/\Z.heap[s]?=some (.cells #[.int .i64 0,.int .i64 0] 125 (0,0))/\Z.heap[lb]?=some (.cells #[.int .i64 M,.string o,.int .i64 L] 149 (0,0))/\ji o I p=R):=by
        obtain⟨i,c9⟩:=b;have hb:=D.out T.out.2.2 l;exact⟨j.next,d1.out,⟨i,k,c9⟩,T.out.2.1.trans l,hb.1,hb.2,A.out⟩
       clear b l d;go_wp2_with fail;go_roundg I
       case measure=>omega
       case rel=>exact⟨I,Nat.le_refl _,H⟩
      ·have d:Hid (Calls Tryz.prog 121 #[.pointer (some ⟨c,0,none⟩),.string ⟨#[124]⟩] Y fun e n=>e=.returned (.bool false)/\(∃i,RD w n c i j k)/\Keep Y n):=kq ⟨#[124]⟩ xu w Y c h4 j k B K
       have A:Hid (R=.error (zj j.hd)):=by
        show _=_;have:=a6.out;rw[if_neg K]at this;exact this
       clear K a6 B;go_wp2_with fail;refine d.out.mono ?_;rintro e Z ⟨rfl,b,l⟩
       have H:Hid ((∃i,RD w Z c i j k)/\Keep W Z/\Z.heap[s]?=some (.cells #[.int .i64 0,.int .i64 0] 125 (0,0))):=⟨b,T.out.2.1.trans l,(D.out T.out.2.2 l).1⟩
       clear b l d T;obtain⟨h5,m⟩:=H.out.1;have z:Hid (Calls Tryz.prog 123 #[.pointer (some ⟨c,0,none⟩)] Z fun e n=>e=.returned (wv j.hd)/\Below Z.heap.size Z n):=kp w Z c h5 j k m;clear m;unfold wv at z;unfold zj at A
       generalize j.hd=y at *
       obtain⟨yk,yt,ya⟩:=y;simp only at z A;go_wp2_with fail;refine z.out.mono ?_;rintro e Z2 ⟨rfl,U⟩;have b4:Hid (Below Z.heap.size Z Z2):=U;clear U z;go_wp2_with fail;refine(jo ⟨yk,yt,ya⟩ _).mono ?_;rintro e Z3 ⟨rfl,U⟩;have u:Hid (Below Z.heap.size Z Z3):=qd b4.out U;clear U;obtain⟨q3,q4,z3,z4⟩:=zg (qf u.out H.out.2.2);unfold fv zj;simp only;go_wp2_with fail;refine bodyPost_ret (v:=.agg #[.int .i64 1,.int .i64 ya]) (by simp[results,Tryz.results124,go_sem, *]) rfl ?_;rw[b7.out];obtain⟨h5,m⟩:=H.out.1;exact(zf (m.step u.out) (H.out.2.1.trans (qp u.out)) ⟨_,qf u.out H.out.2.2⟩ N.out Q.out (by rw[A.out];rfl) (fun p h=>by rw[A.out]at h;cases h)).q
  ·have d:Hid (Calls Tryz.prog 121 #[.pointer (some ⟨c,0,none⟩),.string ⟨#[58]⟩] V fun e n=>e=.returned (.bool false)/\(∃i,RD w n c i S.next qs)/\Keep V n):=kq ⟨#[58]⟩ xu w V c h2 S.next qs HV.out.1 hc
   have A:Hid (jh S=.error (zj S.next.hd)):=by
    show _=_;have:=a7.out;rw[if_neg hc]at this;exact this
   clear hc a7;go_wp2_with fail;refine d.out.mono ?_;rintro e Z ⟨rfl,b,l⟩
   have H:Hid ((∃i,RD w Z c i S.next qs)/\Keep W Z/\Z.heap[s]?=some (.cells #[.int .i64 0,.int .i64 0] 125 (0,0))):=⟨b,HV.out.2.1.trans l,(D.out HV.out.2.2 l).1⟩
   clear b l d HV;obtain⟨h5,m⟩:=H.out.1;have z:Hid (Calls Tryz.prog 123 #[.pointer (some ⟨c,0,none⟩)] Z fun e n=>e=.returned (wv S.next.hd)/\Below Z.heap.size Z n):=kp w Z c h5 S.next qs m;clear m;unfold wv at z;unfold zj at A
   generalize S.next.hd=y at *
   obtain⟨yk,yt,ya⟩:=y;simp only at z A;go_wp2_with fail;refine z.out.mono ?_;rintro e Z2 ⟨rfl,U⟩;have b4:Hid (Below Z.heap.size Z Z2):=U;clear U z;go_wp2_with fail;refine(jo ⟨yk,yt,ya⟩ _).mono ?_;rintro e Z3 ⟨rfl,U⟩;have u:Hid (Below Z.heap.size Z Z3):=qd b4.out U;clear U;obtain⟨q3,q4,z3,z4⟩:=zg (qf u.out H.out.2.2);unfold fv zj;simp only;go_wp2_with fail;refine bodyPost_ret (v:=.agg #[.int .i64 1,.int .i64 ya]) (by simp[results,Tryz.results124,go_sem, *]) rfl ?_;obtain⟨h5,m⟩:=H.out.1;exact(zf (m.step u.out) (H.out.2.1.trans (qp u.out)) ⟨_,qf u.out H.out.2.2⟩ N.out Q.out (by rw[A.out];rfl) (fun p h=>by rw[A.out]at h;cases h)).q
 ·have HP:Hid (jh S=.error (zj S.hd)):=by
   show _=_;unfold jh;rw[hP]
  rw[hF,hS]at O;unfold zj at O HP;generalize takeW 1 S=y at O
  generalize S.hd.a=fa at *
  obtain⟨yk,yt,ya⟩:=y;simp only at O;clear l hP hF hS;go_wp2_with fail;refine O.out.mono ?_;rintro e V3 ⟨rfl,hw⟩;have a9:Below V3.heap.size V3 ((V3.alloc (.cells #[.int .i64 yk,.string yt,.int .i64 ya] 149)).alloc (.cells #[.int .i64 1,.int .i64 fa] 125)):=qd (qb _ _) (qb _ _);have G:=hw.keep ⟨_,HR.out.box⟩;have t2:=qf a9 (G.loc _ _ _ c5.out (by decide) (by decide) (by decide) (by decide));obtain⟨q3,q4,z3,z4⟩:=zg t2
  have HD:Hid ((∃i,RD w ((V3.alloc (.cells #[.int .i64 yk,.string yt,.int .i64 ya] 149)).alloc (.cells #[.int .i64 1,.int .i64 fa] 125)) c i S qs)/\Keep W ((V3.alloc (.cells #[.int .i64 yk,.string yt,.int .i64 ya] 149)).alloc (.cells #[.int .i64 1,.int .i64 fa] 125))/\Loc ((V3.alloc (.cells #[.int .i64 yk,.string yt,.int .i64 ya] 149)).alloc (.cells #[.int .i64 1,.int .i64 fa] 125)) s 125):=⟨(by
   obtain⟨h3,r3⟩:=hw.rd
   exact⟨h3,r3.step a9⟩),(b5.out.trans G).trans (qp a9),⟨_,t2⟩⟩
  clear hw a9 t2 O G;go_wp2_with fail;refine bodyPost_ret (v:=.agg #[.int .i64 1,.int .i64 fa]) (by simp[results,Tryz.results124,go_sem, *]) rfl ?_;obtain⟨h3,r3⟩:=HD.out.1;exact(zf r3 HD.out.2.1 HD.out.2.2 N.out Q.out (by rw[HP.out];rfl) (fun p h=>by rw[HP.out]at h;cases h)).q
theorem qme{x:Wd}{S a:St}{i:Nat}(h:tokP x S=.ok (i,a)):a.ws=S.ws:=by
 unfold tokP at h
 split at h
 ·cases h;rfl
 ·split at h
  ·cases h
  ·cases h;rfl
theorem qqk{x:Wd}{S a:St}(h:ki x S=.ok a):a.ws=S.ws:=by
 unfold ki at h
 split at h
 ·cases h
 ·rename_i i S2 h2
  split at h
  ·cases h
  ·cases h
   have e:=qme h2;exact e
theorem qru{l a:Int}{x:Wd}{S b:St}(h:levP l a x S=.ok b):b.ws=S.ws:=by
 unfold levP at h
 split at h
 ·cases h
 ·rename_i i S2 h2
  split at h
  ·cases h
  ·cases h
   have e:=qme h2;exact e
theorem qdp{b:Wd->St->Except Flt St}(d:∀x S a,b x S=.ok a->a.ws=S.ws):∀{f:Nat} {S a:St},zt b f S=.ok a->a.ws.length<=S.ws.length
 | 0,S,a,h=>by cases h;exact Nat.le_refl _
 | f+1,S,a,h=>by
  unfold zt at h
  split at h
  ·cases h
  ·rename_i x S2 h2;have g:=qco h2
   split at h
   ·cases h
   ·rename_i S3 h3;have c:=d x S2 S3 h3
    split at h
    ·have i:=qdp d h;rw[c]at i;omega
    ·cases h
     rw[c];exact g
theorem qdq{a:Wd->St->Except Flt St}(b:∀x S g,a x S=.error g->g.1≠0):∀{f:Nat} {S:St} {g:Flt},zt a f S=.error g->g.1≠0
 | 0,S,g,h=>by cases h
 | f+1,S,g,h=>by
  unfold zt at h
  split at h
  ·rename_i g' h2
   cases h
   rw[(qbb h2).2];show(1:Int)≠0
   decide
  ·rename_i x S2 h2
   split at h
   ·rename_i g' h3
    cases h
    exact b x S2 _ h3
   ·split at h
    ·exact qdq b h
    ·cases h
theorem qdr{x:Wd}{a:Int}{S b:St}(h:kw x a S=.ok b):b.ws.length<=S.ws.length:=by
 unfold kw at h
 split at h
 ·cases h
 ·have e:=qdp (fun _ _ _ h=>qru h) h;exact e
theorem qds{x:Wd}{a:Int}{S:St}{g:Flt}(h:kw x a S=.error g):g.1≠0:=by
 unfold kw at h
 split at h
 ·cases h
  show(1:Int)≠0
  decide
 ·exact qdq (fun _ _ _ h=>qkh h) h
theorem qnb{x:Wd}{S a:St}(h:vo x S=.ok a):a.ws.length<=S.ws.length:=by
 unfold vo at h
 split at h
 ·cases h
 ·split at h
  ·cases h
  ·rename_i y S2 h2
   cases h
   have e:=qco h2;exact e
theorem qnc{x:Wd}{S:St}{g:Flt}(h:vo x S=.error g):g.1≠0:=by
 unfold vo at h
 split at h
 ·cases h
  show(7:Int)≠0
  decide
 ·split at h
  ·rename_i g' h2
   cases h
   rw[(qbb h2).2];show(1:Int)≠0
   decide
  ·cases h
theorem qlp{x:Wd}{S a:St}(h:jg x S=.ok a):a.ws.length<=S.ws.length:=by
 unfold jg at h
 split at h
 ·cases h
 ·split at h
  ·cases h
  ·rename_i y S2 h2
   cases h
   have e:=qco h2;exact e
theorem qlq{x:Wd}{S:St}{g:Flt}(h:jg x S=.error g):g.1≠0:=by
 unfold jg at h
 split at h
 ·cases h
  show(7:Int)≠0
  decide
 ·split at h
  ·rename_i g' h2
   cases h
   rw[(qbb h2).2];show(1:Int)≠0
   decide
  ·cases h
theorem qou{S a:St}(h:zm S=.ok a):a.ws.length<=S.next.ws.length:=by
 unfold zm at h
 split at h
 ·exact qdp (fun _ _ _ h=>qqk h) h
 ·split at h
  ·exact qdr h
  ·split at h
   ·exact qdr h
   ·split at h
    ·exact qdr h
    ·split at h
     ·exact qnb h
     ·split at h
      ·exact qlp h
      ·cases h
theorem qig{S:St}{g:Flt}(h:zm S=.error g):g.1≠0:=by
 unfold zm at h
 split at h
 ·exact qdq (fun _ _ _ h=>qie h) h
 ·split at h
  ·exact qds h
  ·split at h
   ·exact qds h
   ·split at h
    ·exact qds h
    ·split at h
     ·exact qnc h
     ·split at h
      ·exact qlq h
      ·cases h
       show(1:Int)≠0
       decide
theorem qih{a:ByteArray}:∀{f:Nat} {S b:St},ji a f S=.ok b->b.ws.length<=S.ws.length
 | 0,S,b,h=>by cases h;exact Nat.le_refl _
 | f+1,S,b,h=>by
  unfold ji at h
  split at h
  ·cases h
  ·rename_i S2 h2;have c:=qkl h2;have d:=qbv S2
   split at h
   ·cases h
    omega
   ·split at h
    ·have g:=qih h;omega
    ·cases h
theorem qii{a:ByteArray}:∀{f:Nat} {S:St} {g:Flt},ji a f S=.error g->g.1≠0
 | 0,S,g,h=>by cases h
 | f+1,S,g,h=>by
  unfold ji at h
  split at h
  ·rename_i g' h2
   cases h
   rw[qkm h2]
   decide
  ·split at h
   ·cases h
   ·split at h
    ·exact qii h
    ·cases h
     show(1:Int)≠0
     decide
theorem qnd{S a:St}(h:jh S=.ok a):a.ws.length<=S.next.ws.length:=by
 unfold jh at h
 split at h
 ·cases h
 ·rename_i x S2 h2;unfold kv at h2
  split at h2
  ·cases h2
   split at h
   ·exact Nat.le_trans (qih h) (qbv _)
   ·cases h
  ·cases h2
theorem qgy{S:St}{g:Flt}(h:jh S=.error g):g.1≠0:=by
 unfold jh at h
 split at h
 ·rename_i g' h2
  cases h
  rw[(qbb h2).2];show(1:Int)≠0
  decide
 ·split at h
  ·exact qii h
  ·cases h
   show(1:Int)≠0
   decide
def qij (R:Except Flt St):Except Flt St:=match R with | .error e=>.error e | .ok S1=>x9 S1.ws.length S1
theorem qql(S:St):vh S=qij (x8 S.ws.length S):=rfl
theorem qep(w W:World)(b:Nat)(h:RHd)(S:St)(qs:List (Ru × Option Addr × Nat))(r:RD w W b h S qs):
  Calls Tryz.prog 109 #[.pointer (some ⟨b,0,none⟩)] W fun e C=>DidQ w W b (vh S) e C:=by
 have HR:Hid (RD w (W.alloc (.cells #[.int .i64 0,.int .i64 0] 125)) b h S qs):=r.step (qb _ _);have a6:Hid (w.heap.size<=W.heap.size):=r.bel.size;have Q:(W.alloc (.cells #[.int .i64 0,.int .i64 0] 125)).heap[W.heap.size]?=some (.cells #[.int .i64 0,.int .i64 0] 125 (0,0)):=heap_alloc_new _ _;have a0:Hid (Keep W (W.alloc (.cells #[.int .i64 0,.int .i64 0] 125))):=qp (qb _ _)
 obtain⟨R1,a7⟩:∃R1,x8 S.ws.length S=R1:=⟨_,rfl⟩
 have a3:Hid (x8 S.ws.length S=R1):=a7
 have a5:Hid (vh S=qij R1):=by
  show _=_;rw[qql,a7]
 obtain⟨f0,a8⟩:∃f0,f0=S.ws.length:=⟨_,rfl⟩
 have b2:Hid (S.ws.length<=f0):=Nat.le_of_eq a8.symm;rw[<-a8]at a3;clear r a7 a8;go_enter Tryz.func109,Tryz.ntmps109
 go_upto_block 0 with fail
 generalize W.alloc (.cells #[.int .i64 0,.int .i64 0] 125)=W1 at HR Q a0 ⊢
 obtain⟨n,b0⟩:∃n,n=W.heap.size:=⟨_,rfl⟩
 rw[<-b0]at Q ⊢;have a2:Hid (W.heap.size<=n):=Nat.le_of_eq b0.symm;have b1:Hid (W1.heap[n]?=some (.cells #[.int .i64 0,.int .i64 0] 125 (0,0))):=Q
 have N:Hid (∀{X X':World},X.heap[n]?=some (.cells #[.int .i64 0,.int .i64 0] 125 (0,0))->Keep X X'->X'.heap[n]?=some (.cells #[.int .i64 0,.int .i64 0] 125 (0,0))):=fun hv T=>T.loc _ _ _ hv (by decide) (by decide) (by decide) (by decide)
 clear Q b0;go_wp2_with fail
 go_loopg [3] f0 (fun kx s3 wr=>∃f,f<=kx/\Hid (∃a,a.ws.length<=f/\(∃k d,RD w wr b k a d)/\Keep W wr/\wr.heap[n]?=some (.cells #[.int .i64 0,.int .i64 0] 125 (0,0))/\x8 f a=R1))
 case atStart=>exact⟨f0,Nat.le_refl _,(⟨S,b2.out,⟨h,qs,HR.out⟩,a0.out,b1.out,a3.out⟩:∃a,a.ws.length<=f0/\(∃k d,RD w W1 b k a d)/\Keep W W1/\W1.heap[n]?=some (.cells #[.int .i64 0,.int .i64 0] 125 (0,0))/\x8 f0 a=R1)⟩
 case round =>
  obtain⟨f,b9,J⟩:=hrel;obtain⟨a,o,⟨h1,j,c⟩,M,p,hN⟩:=J.out;clear J HR a3 b2 b1 a0
  obtain⟨F,rfl⟩:∃F,f=F+1:=⟨f - 1,by have:=c.ok.ends.pos;omega⟩
  have l:Hid (a.ws.length<=F+1/\Keep W wr/\wr.heap[n]?=some (.cells #[.int .i64 0,.int .i64 0] 125 (0,0))/\RD w wr b h1 a j/\x8 (F+1) a=R1):=⟨o,M,p,c,hN⟩
  clear o M p c hN
  by_cases D:a.hd.t=tTwo
  ·have G:Hid (Calls Tryz.prog 121 #[.pointer (some ⟨b,0,none⟩),.string ⟨#[37,37]⟩] wr fun e C=>e=.returned (.bool true)/\(∃k,RD w C b k a.next j)/\Keep wr C):=kk ⟨#[37,37]⟩ xu w wr b h1 a j l.out.2.2.2.1 D
   have b4:Hid (vh S=x9 a.next.ws.length a.next):=by
    show _=_;rw[a5.out,<-l.out.2.2.2.2]
    have e:x8 (F+1) a=.ok a.next:=by
     unfold x8;rw[if_pos D]
    rw[e];rfl
   clear D a5;go_wp2_with fail;refine G.out.mono ?_;rintro e V ⟨rfl,c,T⟩
   have Y:Hid ((∃k d,RD w V b k a.next d)/\Keep W V/\V.heap[n]?=some (.cells #[.int .i64 0,.int .i64 0] 125 (0,0))):=⟨(by obtain⟨k,r'⟩:=c;exact⟨k,j,r'⟩),l.out.2.1.trans T,N.out l.out.2.2.1 T⟩
   clear c T G l
   obtain⟨R,hR⟩:∃R,x9 a.next.ws.length a.next=R:=⟨_,rfl⟩
   have a4:Hid (x9 a.next.ws.length a.next=R):=hR
   have b5:Hid (vh S=R):=by show _=_;rw[b4.out,hR]
   obtain⟨f1,a9⟩:∃f1,f1=a.next.ws.length:=⟨_,rfl⟩
   have b3:Hid (a.next.ws.length<=f1):=Nat.le_of_eq a9.symm;rw[<-a9]at a4;clear hR a9 b4;go_wp2_with fail
   go_loopg [4] f1 (fun kx s4 wr=>∃f,f<=kx/\Hid (∃a,a.ws.length<=f/\(∃k d,RD w wr b k a d)/\Keep W wr/\wr.heap[n]?=some (.cells #[.int .i64 0,.int .i64 0] 125 (0,0))/\x9 f a=R))
   case atStart=>exact⟨f1,Nat.le_refl _,(⟨a.next,b3.out,Y.out.1,Y.out.2.1,Y.out.2.2,a4.out⟩:∃a,a.ws.length<=f1/\(∃k d,RD w V b k a d)/\Keep W V/\V.heap[n]?=some (.cells #[.int .i64 0,.int .i64 0] 125 (0,0))/\x9 f1 a=R)⟩
   case round =>
    obtain⟨f,b8,J⟩:=hrel;obtain⟨x,o,⟨D,U,c⟩,M,p,hN⟩:=J.out;clear J a4 b3 Y
    obtain⟨K,rfl⟩:∃K,f=K+1:=⟨f - 1,by have:=c.ok.ends.pos;omega⟩
    have l:Hid (x.ws.length<=K+1/\Keep W wr/\wr.heap[n]?=some (.cells #[.int .i64 0,.int .i64 0] 125 (0,0))/\RD w wr b D x U/\x9 (K+1) x=R):=⟨o,M,p,c,hN⟩
    have O:Hid (Calls Tryz.prog 123 #[.pointer (some ⟨b,0,none⟩)] wr fun e C=>e=.returned (wv x.hd)/\Below wr.heap.size wr C):=kp w wr b D x U c;clear o M p c hN;unfold wv at O
    generalize hy:x.hd=y at *
    obtain⟨yk,yt,ya⟩:=y;simp only at O;have HY:Hid (x.hd=⟨yk,yt,ya⟩):=hy;clear hy;have c3:=qf9 yk ya yt;go_wp2_with fail;refine O.out.mono ?_;rintro e V2 ⟨rfl,hB⟩
    have u:Hid (RD w V2 b D x U/\Keep W V2/\V2.heap[n]?=some (.cells #[.int .i64 0,.int .i64 0] 125 (0,0))):=⟨l.out.2.2.2.1.step hB,l.out.2.1.trans (qp hB),qf hB l.out.2.2.1⟩
    clear hB O
    by_cases h5:yk=5
    ·have hq:(yk != 5)=false:=by simp[h5]
     have E:Hid (R=.ok x):=by
      show _=_;rw[<-l.out.2.2.2.2]
      conv=>lhs;unfold x9
      rw[if_pos (by rw[HY.out];exact h5)]
     clear h5;obtain⟨q3,q4,z3,z4⟩:=zg u.out.2.2;go_wp2_with fail;refine bodyPost_ret (v:=.agg #[.int .i64 0,.int .i64 0]) (by simp[results,Tryz.results109,go_sem, *]) rfl ?_;rw[b5.out];exact(zf u.out.1 u.out.2.1 ⟨_,u.out.2.2⟩ a2.out a6.out (by rw[E.out];rfl) (fun a h=>by rw[E.out]at h;cases h;rfl)).q
    ·have hq:(yk != 5)=true:=by simp[h5]
     have m:Hid (R=(match jh x with | .error e=>.error e | .ok a=>x9 K a)):=by
      show _=_;rw[<-l.out.2.2.2.2]
      conv=>lhs;unfold x9
      rw[if_neg (by rw[HY.out];exact h5)]
      rfl
     clear h5;have HC:Hid (Calls Tryz.prog 124 #[.pointer (some ⟨b,0,none⟩)] V2 fun e C=>DidQ w V2 b (jh x) e C):=qkn w V2 b D x U u.out.1;go_wp2_with fail;refine HC.out.mono ?_;intro e I hD;obtain⟨h3,H,b6,rfl,s,i,A⟩:=hD
     have B:Hid (RD w I b h3 H b6/\Keep W I/\I.heap[n]?=some (.cells #[.int .i64 0,.int .i64 0] 125 (0,0))):=⟨s,u.out.2.1.trans i,N.out u.out.2.2 i⟩
     clear s i HC
     cases z:jh x with
     | error g =>
      have hg:=qgy z;obtain⟨L,P⟩:=g
      have b7:(L != 0)=true:=by simpa using hg
      have E:Hid (R=.error (L,P)):=by show _=_;rw[m.out,z]
      have t2:=qf (qb I (.cells #[.int .i64 L,.int .i64 P] 125)) B.out.2.2;obtain⟨q3,q4,z3,z4⟩:=zg t2
      have HL:Hid (Loc (I.alloc (.cells #[.int .i64 L,.int .i64 P] 125)) n 125):=⟨_,t2⟩
      clear z A t2 hg m;unfold kf fv;simp only;go_wp2_with fail;refine bodyPost_ret (v:=.agg #[.int .i64 L,.int .i64 P]) (by simp[results,Tryz.results109,go_sem, *]) rfl ?_;rw[b5.out];exact(zf (B.out.1.step (qb _ _)) (B.out.2.1.trans (qp (qb _ _))) HL.out a2.out a6.out (by rw[E.out];rfl) (fun a h=>by rw[E.out]at h;cases h)).q
     | ok S4 =>
      have e3:H=S4:=A S4 z;subst e3
      have E:Hid (x9 K H=R):=by show _=_;rw[m.out,z]
      have a1:Hid (H.ws.length<=K):=by
       have l1:=qnd z;have l2:=j4 l.out.2.2.2.1.ok;have l3:=l.out.1;show _<=_;omega
      clear z A m;unfold kf fv;simp only;go_wp2_with fail;go_roundg K
      case measure=>omega
      case rel=>exact⟨K,Nat.le_refl _,(⟨H,a1.out,⟨h3,b6,B.out.1.step (qb _ _)⟩,B.out.2.1.trans (qp (qb _ _)),qf (qb _ _) B.out.2.2,E.out⟩:∃a,a.ws.length<=K/\(∃k d,RD w _ b k a d)/\Keep W _/\_=some (Obj.cells #[.int .i64 0,.int .i64 0] 125 (0,0))/\x9 K a=R)⟩
  ·have G:Hid (Calls Tryz.prog 121 #[.pointer (some ⟨b,0,none⟩),.string ⟨#[37,37]⟩] wr fun e C=>e=.returned (.bool false)/\(∃k,RD w C b k a j)/\Keep wr C):=kq ⟨#[37,37]⟩ xu w wr b h1 a j l.out.2.2.2.1 D
   have m:Hid (R1=(match zm a with | .error e=>.error e | .ok x=>x8 F x)):=by
    show _=_;rw[<-l.out.2.2.2.2]
    conv=>lhs;unfold x8
    rw[if_neg D];rfl
   clear D;go_wp2_with fail;refine G.out.mono ?_;rintro e V ⟨rfl,c,T⟩
   have Y:Hid ((∃k,RD w V b k a j)/\Keep W V/\V.heap[n]?=some (.cells #[.int .i64 0,.int .i64 0] 125 (0,0))):=⟨c,l.out.2.1.trans T,N.out l.out.2.2.1 T⟩
   clear c T G;obtain⟨D,Z⟩:=Y.out.1;have HC:Hid (Calls Tryz.prog 122 #[.pointer (some ⟨b,0,none⟩)] V fun e C=>Did w V b j (zm a) e C):=qkj w V b D a j Z;clear Z;go_wp2_with fail;refine HC.out.mono ?_;intro e I hD;obtain⟨h3,H,rfl,s,i,A⟩:=hD
   have B:Hid (RD w I b h3 H j/\Keep W I/\I.heap[n]?=some (.cells #[.int .i64 0,.int .i64 0] 125 (0,0))):=⟨s,Y.out.2.1.trans i,N.out Y.out.2.2 i⟩
   clear s i HC
   cases z:zm a with
   | error g =>
    have hg:=qig z;obtain⟨L,P⟩:=g
    have b7:(L != 0)=true:=by simpa using hg
    have E:Hid (vh S=.error (L,P)):=by show _=_;rw[a5.out,m.out,z];rfl
    have t2:=qf (qb I (.cells #[.int .i64 L,.int .i64 P] 125)) B.out.2.2;obtain⟨q3,q4,z3,z4⟩:=zg t2
    have HL:Hid (Loc (I.alloc (.cells #[.int .i64 L,.int .i64 P] 125)) n 125):=⟨_,t2⟩
    clear z A t2 hg m;unfold kf fv;simp only;go_wp2_with fail;refine bodyPost_ret (v:=.agg #[.int .i64 L,.int .i64 P]) (by simp[results,Tryz.results109,go_sem, *]) rfl ?_;exact(zf (B.out.1.step (qb _ _)) (B.out.2.1.trans (qp (qb _ _))) HL.out a2.out a6.out (by rw[E.out];rfl) (fun a h=>by rw[E.out]at h;cases h)).q
   | ok S4 =>
    have e3:H=S4:=A S4 z;subst e3
    have E:Hid (x8 F H=R1):=by show _=_;rw[m.out,z]
    have a1:Hid (H.ws.length<=F):=by
     have l1:=qou z;have l2:=j4 l.out.2.2.2.1.ok;have l3:=l.out.1;show _<=_;omega
    clear z A m;unfold kf fv;simp only;go_wp2_with fail;go_roundg F
    case measure=>omega
    case rel=>exact⟨F,Nat.le_refl _,(⟨H,a1.out,⟨h3,j,B.out.1.step (qb _ _)⟩,B.out.2.1.trans (qp (qb _ _)),qf (qb _ _) B.out.2.2,E.out⟩:∃a,a.ws.length<=F/\(∃k d,RD w _ b k a d)/\Keep W _/\_=some (Obj.cells #[.int .i64 0,.int .i64 0] 125 (0,0))/\x8 F a=R1)⟩
end Go.Proofs.YtngclmglmhiljaaGreatDoor
