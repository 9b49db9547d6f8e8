/- Texts that the proofs of the Auto statements stand on, part Prf08. -/
import Derived.Deep.RegionHeld
import Derived.RangeFuncNested
import Derived.RangeFuncBound
import Derived.RangeFuncCalls
import Derived.RangeFuncLeaves
import Derived.Shelf.Abstract
import Derived.Shelf.RegionOpen
import Derived.WalkKit
import Derived.OwnWalkIn
import Derived.TacticsInMore
import Derived.LoopNIn
import Derived.LoopIn
import Derived.Test.YtbdogaaooeoccaaGreatDoorPrf07
set_option maxHeartbeats 16000000
set_option maxRecDepth 100000
namespace Go.Proofs.YtbdogaaooeoccaaGreatDoor
open Go.RowKit
theorem qdl(W:World)(B k n H:Nat)(p:FP)(E:List Bool)(y:List (List Nat))(h:FM W B k p n H E y)(Q:B<=W.heap.size)(x i:Nat)(l:List Nat)(z:y[x]?=some l)(R:l.length<100000):
  Calls Tryz.prog 84 #[.pointer (some ⟨k,0,none⟩),.int .i64 (x:Int),.int .i64 (i:Int)] W fun e s=>e=.returned (.tuple #[])/\∃u,u.eb=p.eb/\FM s B k u n H E (y.set x (l++[i]))/\FV W k p s u:=by
 have J:=h.below (qo W);obtain⟨q,D,c1,-⟩:=h.at z;obtain⟨g,c,s,r,C,P,X,L,M⟩:=J.lay (i:=i) (by exact Q) z D R;have Y:=(List.getElem?_eq_some_iff.1 z).1;have T:=zq h.bod;have F:=zq (h.row x q l D z);have c2:=h.c2;have N:Kept (FK k p) W W.drew:=(Kept.refl _ W).drew
 have I:Hid (∃u,u.eb=p.eb/\FM (s.setCell ⟨p.ob,x,none⟩ (.slice (some ⟨g,0,none⟩) (l.length+1) c)) B k u n H E (y.set x (l++[i]))/\FV W k p (s.setCell ⟨p.ob,x,none⟩ (.slice (some ⟨g,0,none⟩) (l.length+1) c)) u):=⟨⟨p.eb,p.ob,p.oc,p.vs.set x (some ⟨g,0,none⟩,c)⟩,rfl,L,FV.trans (show FV W k p W.drew p from⟨N,fun _ e=>.inl e⟩) M⟩
 have G:=qu ⟨_,h.box⟩ (qw h.bod (b:=p.ob) rfl).2.2 (by decide);have s2:(s.setCell ⟨p.ob,x,none⟩ (.slice (some ⟨g,0,none⟩) (l.length+1) c)).cell? ⟨k,2,none⟩=some (.slice (some ⟨p.ob,0,none⟩) y.length p.oc):=zg C G;have m:(Builtin.append_ #[28,28] 28 #[.slice q.1 l.length q.2,.slice (some ⟨W.heap.size,0,none⟩) 1 1]).run Tryz.prog (W.alloc (.cells #[.int .i64 (i:Int)] 3)).drew=.ok (.slice (some ⟨g,0,none⟩) (l.length+1) c) s:=r;obtain⟨Z,qc⟩:=q;simp only at m c1 P F;clear J h L M r D N
 generalize y.length=A at *
 have U:(x:Int)<(A:Int):=by omega
 go_enter Tryz.func84,Tryz.ntmps84
 go_upto_region 0 with fail
 have t:=qp c2 (.cells #[.int .i64 (i:Int)] 3);have O:=qp c1 (.cells #[.int .i64 (i:Int)] 3);refine wp_region_held_drew (S:=fun V=>V.cell? ⟨k,2,none⟩=some (.slice (some ⟨p.ob,0,none⟩) A p.oc)/\True) (by kernel_rfl) ⟨c2,trivial⟩ (fun a=>?_);refine wpAnyH_take (i:=0) (v:=.pointer (some ⟨k,0,none⟩)) rfl (by kernel_rfl) (by kernel_rfl) (by kernel_rfl) (fun _ _ _ h=>h) (Or.inl ⟨by rfl,fun o d=>?_⟩) a ?_
 ·(obtain⟨f,-⟩:=d;go_simp)
 simp only[Act.put];refine wpAnyH_take (i:=1) (v:=.pointer (some ⟨k,0,none⟩)) rfl (by kernel_rfl) (by kernel_rfl) (by kernel_rfl) (fun _ _ _ h=>h) (Or.inl ⟨by rfl,fun o d=>?_⟩) a ?_
 ·(obtain⟨f,-⟩:=d;go_simp)
 simp only[Act.put];refine wpAnyH_take (i:=2) (v:=.pointer (some ⟨k,2,none⟩)) rfl (by kernel_rfl) (by kernel_rfl) (by kernel_rfl) (fun _ _ _ h=>h) (Or.inl ⟨by rfl,fun o d=>?_⟩) a ?_
 ·(obtain⟨f,-⟩:=d;go_simp)
 simp only[Act.put];refine wpAnyH_take (i:=3) (v:=(.slice (some ⟨p.ob,0,none⟩) A p.oc)) rfl (by kernel_rfl) (by kernel_rfl) (by kernel_rfl) (fun _ _ _ h=>h) (Or.inl ⟨by rfl,fun o d=>?_⟩) a ?_
 ·(obtain⟨f,-⟩:=d;go_simp)
 simp only[Act.put];refine wpAnyH_take (i:=4) (v:=.int .i64 (x:Int)) rfl (by kernel_rfl) (by kernel_rfl) (by kernel_rfl) (fun _ _ _ h=>h) (Or.inl ⟨by rfl,fun o d=>?_⟩) a ?_
 ·(obtain⟨f,-⟩:=d;go_simp)
 simp only[Act.put];refine wpAnyH_take (i:=5) (v:=.pointer (some ⟨k,0,none⟩)) rfl (by kernel_rfl) (by kernel_rfl) (by kernel_rfl) (fun _ _ _ h=>h) (Or.inl ⟨by rfl,fun o d=>?_⟩) a ?_
 ·(obtain⟨f,-⟩:=d;go_simp)
 simp only[Act.put];refine wpAnyH_take (i:=6) (v:=.pointer (some ⟨k,0,none⟩)) rfl (by kernel_rfl) (by kernel_rfl) (by kernel_rfl) (fun _ _ _ h=>h) (Or.inl ⟨by rfl,fun o d=>?_⟩) a ?_
 ·(obtain⟨f,-⟩:=d;go_simp)
 simp only[Act.put];refine wpAnyH_take (i:=7) (v:=.pointer (some ⟨k,2,none⟩)) rfl (by kernel_rfl) (by kernel_rfl) (by kernel_rfl) (fun _ _ _ h=>h) (Or.inl ⟨by rfl,fun o d=>?_⟩) a ?_
 ·(obtain⟨f,-⟩:=d;go_simp)
 simp only[Act.put];refine wpAnyH_take (i:=8) (v:=(.slice (some ⟨p.ob,0,none⟩) A p.oc)) rfl (by kernel_rfl) (by kernel_rfl) (by kernel_rfl) (fun _ _ _ h=>h) (Or.inl ⟨by rfl,fun o d=>?_⟩) a ?_
 ·(obtain⟨f,-⟩:=d;go_simp)
 simp only[Act.put];refine wpAnyH_take (i:=9) (v:=.int .i64 (x:Int)) rfl (by kernel_rfl) (by kernel_rfl) (by kernel_rfl) (fun _ _ _ h=>h) (Or.inl ⟨by rfl,fun o d=>?_⟩) a ?_
 ·(obtain⟨f,-⟩:=d;go_simp)
 simp only[Act.put];refine wpAnyH_take (i:=10) (v:=.pointer (some ⟨p.ob,x,none⟩)) rfl (by kernel_rfl) (by kernel_rfl) (by kernel_rfl) (fun _ _ _ h=>h) (Or.inl ⟨by rfl,fun o d=>?_⟩) a ?_
 ·(obtain⟨f,-⟩:=d;go_simp)
 simp only[Act.put];refine wpAnyH_take (i:=12) (v:=.int .i64 (i:Int)) rfl (by kernel_rfl) (by kernel_rfl) (by kernel_rfl) (fun _ _ _ h=>h) (Or.inl ⟨by rfl,fun o d=>?_⟩) a ?_
 ·(obtain⟨f,-⟩:=d;go_simp)
 simp only[Act.put];refine wpAnyH_ready (rs:=[11,13]) (by kernel_rfl) (by simp) ?_;refine AllReadyH.cons rfl (fun K j=>?_) (AllReadyH.cons rfl (fun K j=>?_) AllReadyH.nil)
 ·go_simp
  refine j.out _ _ ⟨c2,trivial⟩ (fun a=>?_);clear j K;refine wpAnyH_ready (rs:=[13]) (by kernel_rfl) (by simp) ?_;refine AllReadyH.cons rfl (fun K j=>?_) AllReadyH.nil
  go_simp
  refine j.out _ _ ⟨t,trivial⟩ (fun a=>?_);clear j K;refine wpAnyH_ready (rs:=[14]) (by kernel_rfl) (by simp) ?_;refine AllReadyH.cons rfl (fun K j=>?_) AllReadyH.nil;refine zb rfl (.tmp 17) (.tmp 19) rfl rfl (by simp[Act.eval]) (by simp[Act.eval]) m (j.out _ _ ⟨C,trivial⟩ (fun a=>?_));simp only[Act.put];clear j K;refine wpAnyH_take (i:=15) (v:=.pointer (some ⟨p.ob,x,none⟩)) rfl (by kernel_rfl) (by kernel_rfl) (by kernel_rfl) (fun _ _ _ h=>h) (Or.inl ⟨by rfl,fun o d=>?_⟩) a ?_
  ·(obtain⟨f,-⟩:=d;go_simp)
  simp only[Act.put];refine wpAnyH_ready (rs:=[16]) (by kernel_rfl) (by simp) ?_;refine AllReadyH.cons rfl (fun K j=>?_) AllReadyH.nil
  go_simp
  refine j.out _ _ ⟨s2,trivial⟩ (fun a=>?_);clear j K;refine wpAnyH_done (by kernel_rfl) ?_ _;go_wp2_with fail;go_end0;exact⟨rfl,I.out⟩
 ·go_simp
  refine j.out _ _ ⟨t,trivial⟩ (fun a=>?_);clear j K;refine wpAnyH_ready (rs:=[11]) (by kernel_rfl) (by simp) ?_;refine AllReadyH.cons rfl (fun K j=>?_) AllReadyH.nil
  go_simp
  refine j.out _ _ ⟨t,trivial⟩ (fun a=>?_);clear j K;refine wpAnyH_ready (rs:=[14]) (by kernel_rfl) (by simp) ?_;refine AllReadyH.cons rfl (fun K j=>?_) AllReadyH.nil;refine zb rfl (.tmp 17) (.tmp 19) rfl rfl (by simp[Act.eval]) (by simp[Act.eval]) m (j.out _ _ ⟨C,trivial⟩ (fun a=>?_));simp only[Act.put];clear j K;refine wpAnyH_take (i:=15) (v:=.pointer (some ⟨p.ob,x,none⟩)) rfl (by kernel_rfl) (by kernel_rfl) (by kernel_rfl) (fun _ _ _ h=>h) (Or.inl ⟨by rfl,fun o d=>?_⟩) a ?_
  ·(obtain⟨f,-⟩:=d;go_simp)
  simp only[Act.put];refine wpAnyH_ready (rs:=[16]) (by kernel_rfl) (by simp) ?_;refine AllReadyH.cons rfl (fun K j=>?_) AllReadyH.nil
  go_simp
  refine j.out _ _ ⟨s2,trivial⟩ (fun a=>?_);clear j K;refine wpAnyH_done (by kernel_rfl) ?_ _;go_wp2_with fail;go_end0;exact⟨rfl,I.out⟩
theorem qfg(W:World)(B f n m:Nat)(p:FP)(E:List Bool)(d:List (List Nat))(h:FM W B f p n m E d)(r:B<=W.heap.size)(a b:Nat)(s:d.length<100000):
  Calls Tryz.prog 111 #[.pointer (some ⟨f,0,none⟩),.int .i64 (a:Int),.int .i64 (b:Int)] W fun e j=>e=.returned (.int .i64 (d.length:Int))/\∃i,i.eb=p.eb/\FM j B f i n m E (d++[[a,b]])/\FV W f p j i:=by
 obtain⟨g,c,j,k,u,v,l,o⟩:=h.fork r a b s;have t:=zq h.bod;have c2:=h.c2;have s2:=l.c2;rw[List.length_append]at s2
 have q:Hid (∃i,i.eb=p.eb/\FM (j.setCell ⟨f,2,none⟩ (.slice (some ⟨g,0,none⟩) (d.length+1) c)) B f i n m E (d++[[a,b]])/\FV W f p (j.setCell ⟨f,2,none⟩ (.slice (some ⟨g,0,none⟩) (d.length+1) c)) i):=⟨⟨p.eb,g,c,p.vs++[(some ⟨W.heap.size,0,none⟩,2)]⟩,rfl,l,o⟩
 clear h l o
 generalize d.length=x at *
 simp only[List.length_singleton]at s2;go_enter Tryz.func111,Tryz.ntmps111;go_wp2_with(at_builtin;refine Lib.wpList_append_run _ rfl _ _ _ _ rfl _ _ rfl rfl _ _ k ?_)
 go_ret;exact⟨by simp,q.out⟩
structure FQ (W wr:World) (Bf sb:Nat) (ta:Option Addr) (tc:Nat) (seen:List Bool) (todo:List Nat):Prop where
 bel:Below Bf W wr
 tod:wr.ownsRow Bf 3 1 (.slice ta todo.length tc) todo.length (natC todo)
 see:wr.ownsRow Bf 4 1 (.slice (some ⟨sb,0,none⟩) seen.length seen.length) seen.length (booC seen)
theorem FQ.pop{W wr:World}{i j k x:Nat}{f:Option Addr}{a:List Bool}{t:List Nat}(h:FQ W wr i j f k a (t++[x])):∃g,f=some ⟨g,0,none⟩/\wr.cell? ⟨g,t.length,none⟩=some (.int .i64 (x:Int))/\FQ W wr i j f k a t:=by
 have d:=h.tod;rw[List.length_append,jk]at d
 obtain⟨g,rfl⟩:∃g,f=some ⟨g,0,none⟩:=by
  obtain⟨l,c,e,-,-,b⟩:=zo d
  cases e
  rcases b with ⟨-,b,-⟩ | b
  ·exact absurd b (by simp)
  ·exact b
 refine⟨g,rfl,?_,h.bel,qke d,h.see⟩;have:=d.cellAt t.length (by simp);rw[this,List.getElem?_append_right (by rw[j3];exact Nat.le_refl _),j3,Nat.sub_self]
 rfl
theorem FQ.seeAt{W wr:World}{c b g x:Nat}{f:Option Addr}{a:List Bool}{t:List Nat}(h:FQ W wr c b f g a t)(d:x<a.length):wr.cell? ⟨b,x,none⟩=some (.bool (isF a x))/\wr.frozen? ⟨b,x,none⟩=false:=by
 refine⟨?_,h.see.frozenAt x⟩;have:=h.see.cellAt x (by omega);rw[this];unfold booC;rw[List.getElem?_map,vy d];rfl
theorem FQ.add{W wr:World}{f a s x m y:Nat}{r v:Option Addr}{d:List Bool}{t l:List Nat}(h:FQ W wr f a r s d t)(u:f<=wr.heap.size)(D:Row (wr.setCell ⟨a,x,none⟩ (.bool true)) 1 v m y (natC l))(z:m=l.length)(A:t.length+m<1000000):
  ∃j c g,(Builtin.append_ #[28,28] 28 #[.slice r t.length s,.slice v m y]).run Tryz.prog (wr.setCell ⟨a,x,none⟩ (.bool true))=.ok (.slice j (t.length+m) c) g/\FQ W g f a j c (d.set x true) (t++l):=by
 subst z;have E:Loc wr a 4:=(qw h.see (b:=a) rfl).2.2;have s1:(wr.setCell ⟨a,x,none⟩ (.bool true)).ownsRow f 3 1 (.slice r t.length s) t.length (natC t):=qh h.tod (fun i o=>Below.heap_setCell _ _ _ _ (qu (za h.tod o) E (by decide)));have s2:=(h.see.stored x (.bool true)).1;have n:Below f W (wr.setCell ⟨a,x,none⟩ (.bool true)):=h.bel.setCell (p:=⟨a,x,none⟩) (qw h.see (b:=a) rfl).1 _;obtain⟨j,c,g,C,B,q,F⟩:=qst s1 (by simpa [World.setCell] using u) D A;refine⟨j,c,g,C,?_,by rw[List.length_append];exact B,?_⟩
 ·refine n.trans (q.below (by simpa [World.setCell] using u) (fun k q e=>?_));have:=(qw s1 e).1;omega
 ·rw[<-qb8,List.length_set]at *
  refine qh s2 (fun i o=>by
   cases o
   exact q.block a (qw s2 (b:=a) rfl).2.1 (fun e=>qu (qw s1 e).2.2 (qw s2 (b:=a) rfl).2.2 (by decide) rfl))
theorem qqz{V:World}{d m t k:Nat}{s:Option Addr}{l:List Nat}{a:List Bool}{n:Nat}(h:V.ownsRow d 3 1 (.slice s l.length t) l.length (natC l))(o:V.ownsRow d 4 1 (.slice (some ⟨m,0,none⟩) n n) n (booC a))(p:d<=V.heap.size)(y:l.length<100000):
  ∃g c f,(Builtin.append_ #[28,28] 28 #[.slice s l.length t,.slice (some ⟨V.heap.size,0,none⟩) 1 1]).run Tryz.prog (V.alloc (.cells #[.int .i64 (k:Int)] 3))=.ok (.slice (some ⟨g,0,none⟩) (l.length+1) c) f/\f.ownsRow d 3 1 (.slice (some ⟨g,0,none⟩) (l.length+1) c) (l.length+1) (natC (l++[k]))/\f.ownsRow d 4 1 (.slice (some ⟨m,0,none⟩) n n) n (booC a)/\Below d V f:=by
 obtain⟨g,c,f,A,z,x,-⟩:=xy (us:=[.int .i64 (k:Int)]) u29 i3 rfl (by decide) (by decide) rfl (fun u q=>by rw[List.mem_singleton]at q;subst q;rfl) h p y
 have r:=((Kept.refl _ V).alloc _).trans x (fun k _ e=>ze e);refine⟨g,c,f,A,by rw[jk];exact z,?_,r.below p (fun j B e=>by have:=(qw h e).1;omega)⟩
 exact qh o (fun i v=>by
  cases v
  exact r.block m (qw o (b:=m) rfl).2.1 (fun e=>qu (qw h e).2.2 (qw o (b:=m) rfl).2.2 (by decide) rfl))
structure FL (W wr:World) (Bf sb wn tk:Nat) (la:Option Addr) (lc:Nat) (seen:List Bool) (k:Nat):Prop where
 bel:Below Bf W wr
 lst:wr.ownsRow Bf 3 1 (.slice la (upTo (fun x=>isF seen x && decide (x<=tk)) k).length lc) (upTo (fun x=>isF seen x && decide (x<=tk)) k).length (natC (upTo (fun x=>isF seen x && decide (x<=tk)) k))
 see:wr.ownsRow Bf 4 1 (.slice (some ⟨sb,0,none⟩) wn wn) wn (booC seen)
theorem qen(W:World)(B fb n z r:Nat)(p:FP)(E:List Bool)(o:List (List Nat))(h:FM W B fb p n z E o)(hI:Ins o)(M:∀k,FK fb p k->k<r)(hB:r<=W.heap.size)(j:List Nat)(fa:Option Addr)(fc m:Nat)(hm:j.length=m)(F:W.ownsRow r 3 1 (.slice fa m fc) m (natC j))(A:∀x∈j,x<o.length)(a9:o.length<=50000)(a2:m+tot o<=900000)(a7:z<o.length):
  Calls Tryz.prog 87 #[.pointer (some ⟨fb,0,none⟩),.slice fa m fc] W fun e W'=>∃l T O,e=.returned (.slice T (l:List Nat).length O)/\IsL (z+1) (fun t=>∃a∈j,Got o a t) l/\W'.ownsRow r 3 1 (.slice T l.length O) l.length (natC l)/\Below r W W':=by
 have HX:Hid (FM W B fb p n z E o/\Ins o/\(∀k,FK fb p k->k<r)/\z<o.length/\j.length+tot o<=900000):=⟨h,hI,M,a7,by rw[hm];exact a2⟩
 have HM:Hid (∀V:World,Below r W V->V.cell? ⟨fb,0,none⟩=some (.int .i64 (z:Int))/\V.cell? ⟨fb,2,none⟩=some (.slice (some ⟨p.ob,0,none⟩) o.length p.oc)/\∀(x:Nat) (l:List Nat),o[x]?=some l->∃q:Option Addr × Nat,V.cell? ⟨p.ob,x,none⟩=some (.slice q.1 l.length q.2)/\Row V 1 q.1 l.length q.2 (natC l)/\∀k,blk q.1=some k->k<r):=fun V hV=>by
  have hF:=h.keep (fun k hk=>hV.block k (M k hk));refine⟨hF.c0,hF.c2,fun x l hl=>?_⟩;obtain⟨q,I,hc,-⟩:=hF.at hl;exact⟨q,hc,Row.of_own (hF.row x q l I hl),fun k e=>M k (.inr (.inr (.inr ⟨x,q,I,e⟩)))⟩
 have c3:=zq h.bod;have a3:=zq F;obtain⟨c0,c2,-⟩:=HM.out W (Below.refl _ _)
 obtain⟨v,X⟩:∃v,Hid (o.length=v):=⟨_,rfl⟩
 obtain⟨i0,hi,b0,b1,b2⟩:=info_parts i4;obtain⟨w1,hr,ho,hg⟩:=run_make_full (P:=Tryz.prog) W r 51 4 i0 _ 1 u51 hi b0 b1 .i64 .i64 v (by rw[b2];have:=X.out;omega) (by unfold maxLen;have:=X.out;omega) hB
 rw[qfu]at ho
 have L:Hid (FQ W w1 r W.heap.size fa fc (List.replicate v false) j/\Dfs o j (List.replicate v false) j):=by
  have hb:=(Below.refl r W).grown hg hB (fun k hk=>by cases hk);refine⟨⟨hb,?_,by rw[List.length_replicate];exact ho⟩,by rw[<-X.out];exact Dfs.begin A⟩
  rw[hm];exact qh F (fun i hi=>((Below.refl W.heap.size W).grown hg (Nat.le_refl _) (fun k hk=>by cases hk)).block i (qw F (ze hi)).2.1)
 rw[X.out]at c2 c3
 have c6:v<=50000:=by rw[<-X.out];exact a9
 clear hi b0 b1 b2 ho hg h hI M F A a9 a2 a7;go_enter Tryz.func87,Tryz.ntmps87
 go_upto_block 0 with fail
 clear hr c0 c2;generalize W.heap.size=K at L ⊢
 go_cut [1] (fun s1 wd=>Hid (∃ta Q d,FQ W wd r K ta Q d []/\Dfs o j d []))
 case first =>
  go_wp2_with fail
  go_loopg [1] (m+tot o) (fun kx s1 wr=>∃ta Q tl,s1=.slice ta tl Q/\tl<=Q/\Q<=9223372036854775807/\Hid (∃d f,(f:List Nat).length=tl/\FQ W wr r K ta Q d f/\Dfs o j d f/\tl+un o d<=kx))
  case atStart =>
   refine⟨fa,fc,m,rfl,a3.1,a3.2,(⟨_,j,hm,L.out.1,L.out.2,?_⟩:∃d f,(f:List Nat).length=m/\FQ W w1 r K fa fc d f/\Dfs o j d f/\m+un o d<=m+tot o)⟩;have:=L.out.2.siz;omega
  case round =>
   clear L a3 hm;obtain⟨ta,Q,tl,rfl,c7,c8,J⟩:=hrel
   by_cases h0:tl=0
   ·subst h0
    have R:Hid (∃ta Q d,FQ W wr r K ta Q d []/\Dfs o j d []):=by
     obtain⟨d,f,h1,h2,Z,-⟩:=J.out;have:f=[]:=List.length_eq_zero_iff.1 h1;subst this;exact⟨ta,Q,d,h2,Z⟩
    clear J;go_wp2_with fail;go_meet;exact R
   ·obtain⟨d,f,h1,h2,Z,h4⟩:=J.out;obtain⟨t,x,rfl⟩:=qia f (fun e=>h0 (by rw[<-h1,e];rfl))
    obtain⟨g,rfl,cx,I⟩:=h2.pop;have c5:=Z.ins x (by simp)
    have N:d.length=v:=by rw[Z.len];exact X.out
    obtain⟨cs,fs⟩:=I.seeAt (x:=x) (by rw[Z.len];exact c5)
    have a8:t.length+1=tl:=by rw[<-h1];simp
    have d1:(x:Int)<(v:Int):=by have:=X.out;omega
    have b5:=Nat.le_trans hB I.bel.size
    cases F:isF d x
    ·obtain⟨l,hl⟩:∃l,o[x]?=some l:=⟨o[x],List.getElem?_eq_getElem _⟩
     obtain⟨Y,u⟩:=Z.take HX.out.2.1 F hl;have hV:Below r W (wr.setCell ⟨K,x,none⟩ (.bool true)):=I.bel.setCell (p:=⟨K,x,none⟩) (qw I.see (b:=K) rfl).1 _;obtain⟨-,v2,v3⟩:=HM.out _ hV;obtain⟨q,v4,S,-⟩:=v3 x l hl;have a6:=Y.siz;have c4:=zk S;rw[List.length_append]at a6;obtain⟨va,c,W',G,a4⟩:=I.add b5 S rfl (by have:=HX.out.2.2.2.2;omega)
     have D:=zq a4.tod;rw[List.length_append]at D;rw[F]at cs;rw[X.out]at v2
     have R:Hid (∃d f,(f:List Nat).length=t.length+l.length/\FQ W W' r K va c d f/\Dfs o j d f/\t.length+l.length+un o d<=gk - 1):=by
      refine⟨_,_,by rw[List.length_append],a4,Y,?_⟩;simp only[List.length_append,List.length_singleton]at u;omega
     have b6:1<=gk:=by omega
     obtain⟨qa,qc⟩:=q;simp only at G v4 c4;clear a4 Y h2 Z I S h4 J h1 hV v3 N hl u a6 F
     generalize l.length=lm at *
     generalize t.length=tm at *
     subst a8
     have m1:(0:Int)<(tm:Int)+1:=by omega
     go_wp2_with(at_builtin;refine Lib.wpList_append_run _ rfl _ _ _ _ rfl _ _ rfl rfl _ _ G ?_)
     go_roundg (gk - 1)
     case measure=>omega
     case rel=>exact⟨va,c,tm+lm,by simp,D.1,D.2,R⟩
    ·obtain⟨Y,u⟩:=Z.pass F;rw[F]at cs;have D:=zq I.tod
     have R:Hid (∃d f,(f:List Nat).length=t.length/\FQ W wr r K (some ⟨g,0,none⟩) Q d f/\Dfs o j d f/\t.length+un o d<=gk - 1):=by
      refine⟨_,_,rfl,I,Y,?_⟩;simp only[List.length_append,List.length_singleton]at u;omega
     have b6:1<=gk:=by omega
     clear Y h2 Z I h4 J h1 N u F
     generalize t.length=tm at *
     subst a8
     have m1:(0:Int)<(tm:Int)+1:=by omega
     go_wp2_with fail;go_roundg (gk - 1)
     case measure=>omega
     case rel=>exact⟨some ⟨g,0,none⟩,Q,tm,by simp,D.1,D.2,R⟩
 case rest =>
  obtain⟨w8,d0⟩:∃w8,w8=wc:=⟨_,rfl⟩
  subst wc;obtain⟨ta,Q,d,I,Y⟩:=hcut.out
  have N:d.length=v:=by rw[Y.len];exact X.out
  have HD:=hid2 Y N
  have HL:Hid (FL W w8 r K v z none 0 d 0):=⟨I.bel,World.ownsRow_nil _ _ _ _,by have:=I.see;rw[N]at this;exact this⟩
  clear hcut I Y N L;go_wp2_with fail
  go_loopg [49,8] v (fun kx s49 s8 wr=>∃(k:Nat) (T:Option Addr) (O U:Nat),s49=.int .i64 k/\s8=.slice T U O/\k<=v/\U<=k/\U<=O/\O<=9223372036854775807/\v - k<=kx/\Hid (U=(upTo (fun x=>isF d x && decide (x<=z)) k).length/\FL W wr r K v z T O d k))
  case atStart=>exact⟨0,none,0,0,rfl,rfl,Nat.zero_le _,Nat.le_refl _,Nat.le_refl _,by omega,by omega,(⟨rfl,HL.out⟩:0=(upTo (fun x=>isF d x && decide (x<=z)) 0).length/\FL W w8 r K v z none 0 d 0)⟩
  case round =>
   clear HL;obtain⟨k,T,O,U,rfl,rfl,hk,c9,a0,a1,hg,J⟩:=hrel
   by_cases M:k<v
   ·have a5:(k:Int)<(v:Int):=by omega
    obtain⟨C,y⟩:=J.out;obtain⟨c0,-,-⟩:=HM.out _ y.bel
    have b8:k<d.length:=by rw[HD.out.2];exact M
    have ck:wr.cell? ⟨K,k,none⟩=some (.bool (isF d k)):=by
     have:=y.see.cellAt k (by omega);rw[this];unfold booC;rw[List.getElem?_map,vy b8];rfl
    have H:=qoo (fun x=>isF d x && decide (x<=z)) k
    by_cases A:isF d k=true/\k<=z
    ·have s:(isF d k && decide (k<=z))=true:=by rw[A.1];simp[A.2]
     rw[if_pos s]at H;obtain⟨g,c,W',G,ho,hs,hb⟩:=qqz (k:=k) y.lst y.see (Nat.le_trans hB y.bel.size) (by rw[<-C];omega)
     rw[<-C]at G ho
     have R:Hid (U+1=(upTo (fun x=>isF d x && decide (x<=z)) (k+1)).length/\FL W W' r K v z (some ⟨g,0,none⟩) c d (k+1)):=by
      refine⟨by rw[H,List.length_append,<-C];rfl,y.bel.trans hb,?_,hs⟩
      rw[H,List.length_append,<-C];exact ho
     have D:=zq ho;rw[A.1]at ck
     have b9:(k:Int)<=(z:Int):=by omega
     clear y J hs ho H C s hb;go_wp2_with(at_builtin;refine Lib.wpList_append_run _ rfl _ _ _ _ rfl _ _ rfl rfl _ _ G ?_)
     go_roundg (v - (k+1))
     case measure=>omega
     case rel=>exact⟨k+1,some ⟨g,0,none⟩,c,U+1,by simp,by simp,by omega,by omega,D.1,D.2,Nat.le_refl _,R⟩
    ·have s:¬(isF d k && decide (k<=z))=true:=by rw[Bool.and_eq_true,decide_eq_true_eq];exact A
     rw[if_neg s]at H
     have R:Hid (U=(upTo (fun x=>isF d x && decide (x<=z)) (k+1)).length/\FL W wr r K v z T O d (k+1)):=by
      refine⟨by rw[H];exact C,y.bel,?_,y.see⟩
      rw[H];exact y.lst
     clear y J H C s
     cases F:isF d k
     ·rw[F]at ck;clear A F;go_wp2_with fail;go_roundg (v - (k+1))
      case measure=>omega
      case rel=>exact⟨k+1,T,O,U,by simp,rfl,by omega,by omega,a0,a1,Nat.le_refl _,R⟩
     ·rw[F]at ck
      have b9:¬(k:Int)<=(z:Int):=fun e=>A ⟨F,by omega⟩
      clear A F;go_wp2_with fail;go_roundg (v - (k+1))
      case measure=>omega
      case rel=>exact⟨k+1,T,O,U,by simp,rfl,by omega,by omega,a0,a1,Nat.le_refl _,R⟩
   ·have b7:k=v:=by omega
    subst b7
    have a5:¬(k:Int)<(k:Int):=by omega
    obtain⟨C,y⟩:=J.out
    have R:Hid (∃(l:List Nat) (b3:Option Addr) (b4:Nat),Ending.returned (.slice T U O)=Ending.returned (.slice b3 l.length b4)/\IsL (z+1) (fun t=>∃a∈j,Got o a t) l/\wr.ownsRow r 3 1 (.slice b3 l.length b4) l.length (natC l)/\Below r W wr):=by
     refine⟨_,T,O,by rw[C],?_,y.lst,y.bel⟩;have:=HD.out.1.told HX.out.2.2.2.1;rw[X.out]at this;exact this
    clear y J C;go_wp2_with fail;go_ret;exact R.out
structure FS (W:World) (B fb:Nat) (p:FP) (n:Nat) (S:Sp) (E:List Bool) (WL:List (List Nat)):Prop where
 fm:FM W B fb p n S.tk E WL
 ways:Ways S n WL
 emp:∀z,isF E z=true↔Nul S z
 nn:n=S.tk+1+S.nt
 wl:WL.length<=50000
 tt:tot WL<=100000
 wf:WF S
 sy:∀r∈S.rs,∀y∈r.r,y<n/\y≠S.tk
theorem FS.below{W a:World}{B c:Nat}{p:FP}{n:Nat}{S:Sp}{E:List Bool}{b:List (List Nat)}(h:FS W B c p n S E b)(d:Below W.heap.size W a):FS a B c p n S E b:=⟨h.fm.below d,h.ways,h.emp,h.nn,h.wl,h.tt,h.wf,h.sy⟩
def Told (w w':World) (m:Nat) (Q:Nat->Prop) (e:Ending):Prop:=∃(l:List Nat) (la:Option Addr) (lc:Nat),e=.returned (.slice la l.length lc)/\IsL m Q l/\w'.ownsRow w.heap.size 3 1 (.slice la l.length lc) l.length (natC l)/\Below w.heap.size w w'
theorem Told.congr{w a:World}{m:Nat}{Q R:Nat->Prop}{e:Ending}(h:Told w a m Q e)(k:∀t,t<m->(Q t↔R t)):Told w a m R e:=by
 obtain⟨l,f,g,b,c,d⟩:=h;exact⟨l,f,g,b,c.congr k,d⟩
structure OL (W wr:World) (S:Sp) (syms:List Nat) (fa:Option Addr) (fc k:Nat):Prop where
 bel:Below W.heap.size W wr
 own:wr.ownsRow W.heap.size 3 1 (.slice fa k fc) k (natC (syms.take k))
 emp:∀z∈syms.take k,Nul S z
theorem qeo(W:World)(B D n:Nat)(p:FP)(E:List Bool)(S:Sp)(L:List (List Nat))(h:FS W B D p n S E L)(d:List Nat)(sa:Option Addr)(m sc:Nat)(hm:d.length=m)(b7:m<=1000)(F:Row W 1 sa m sc (natC d))(a6:∀z∈d,z<n/\z≠S.tk)(C:Int)(a7:C=-1\/(0<=C/\C<=(S.tk:Int))):
  Calls Tryz.prog 58 #[.pointer (some ⟨D,0,none⟩),.slice sa m sc,.int .i64 C] W fun e o=>Told W o (S.tk+1) (fun t=>FstL S d t\/((∀z∈d,Nul S z)/\(t:Int)=C)) e:=by
 have i:Hid (FS W B D p n S E L/\(∀z∈d,z<n/\z≠S.tk)/\S.tk<n/\Row W 1 sa m sc (natC d)):=⟨h,a6,by rw[h.nn];omega,F⟩
 have b5:n<=1000:=by have:=h.nn;have:=h.wf.tk;have:=h.wf.nt;omega
 have b9:S.tk<n:=by rw[h.nn];omega
 have b8:=zk F
 have HC:Hid (∀V:World,Below W.heap.size W V->V.cell? ⟨D,0,none⟩=some (.int .i64 (S.tk:Int))/\V.cell? ⟨D,1,none⟩=some (.slice (some ⟨p.eb,0,none⟩) n n)/\∀z,z<n->V.cell? ⟨p.eb,z,none⟩=some (.bool (isF E z))):=fun V N=>⟨(h.fm.below N).c0,(h.fm.below N).c1,fun z v=>(h.fm.below N).ce v⟩
 have HD:Hid (∀(V:World) (f:List Nat) (q:Option Addr) (j k:Nat),f.length=k->k<=2000->Below W.heap.size W V->V.ownsRow W.heap.size 3 1 (.slice q k j) k (natC f)->(∀x∈f,x<n)->Calls Tryz.prog 87 #[.pointer (some ⟨D,0,none⟩),.slice q k j] V fun e o=>∃(l:List Nat) (I:Option Addr) (K:Nat),e=.returned (.slice I l.length K)/\IsL (S.tk+1) (fun t=>∃a∈f,Got L a t) l/\o.ownsRow W.heap.size 3 1 (.slice I l.length K) l.length (natC l)/\Below W.heap.size V o):=fun V f q j k hk b6 N H s =>
  qen V B D n S.tk W.heap.size p E L (h.fm.below N) h.ways.ins (fun k hk=>(h.fm.lt hk).2.1) N.size f q j k hk H (fun x b3=>by have:=s x b3;have:=h.ways.len;omega) h.wl (by have:=h.tt;omega) (by have:=h.ways.len;omega)
 have R:Hid (∀(V o:World) (e:Ending) (f:List Nat),Below W.heap.size W V->(∀t,t<S.tk+1->((∃a∈f,Got L a t)↔(fun t=>FstL S d t\/((∀z∈d,Nul S z)/\(t:Int)=C)) t))->(∃(l:List Nat) (I:Option Addr) (K:Nat),e=.returned (.slice I l.length K)/\IsL (S.tk+1) (fun t=>∃a∈f,Got L a t) l/\o.ownsRow W.heap.size 3 1 (.slice I l.length K) l.length (natC l)/\Below W.heap.size V o)->Told W o (S.tk+1) (fun t=>FstL S d t\/((∀z∈d,Nul S z)/\(t:Int)=C)) e):=fun V o e f N hq ⟨l,I,K,Z,U,h3,h4⟩=>⟨l,I,K,Z,U.congr hq,h3,N.trans h4⟩
 have HM:=hid hm
 have T:Hid (OL W W S d none 0 0):=⟨Below.refl _ _,World.ownsRow_nil _ _ _ _,fun z v=>by cases v⟩
 clear h F a6 hm;go_enter Tryz.func58,Tryz.ntmps58
 go_upto_block 0 with fail
 go_cut [7] (fun s7 wd=>∃(q:Option Addr) (j:Nat),s7=.slice q m j/\m<=j/\j<=9223372036854775807/\Hid (OL W wd S d q j m))
 case first =>
  go_wp2_with fail
  go_loopg [14,7] m (fun kx s14 s7 wr=>∃(k:Nat) (q:Option Addr) (j:Nat),s14=.int .i64 k/\s7=.slice q k j/\k<=m/\k<=j/\j<=9223372036854775807/\m - k<=kx/\Hid (OL W wr S d q j k))
  case atStart=>exact⟨0,none,0,rfl,rfl,Nat.zero_le _,Nat.le_refl _,by omega,by omega,T⟩
  case round =>
   clear T;obtain⟨k,q,j,rfl,rfl,hk,a3,a4,hg,J⟩:=hrel
   by_cases b0:k<m
   ·have a5:(k:Int)<(m:Int):=by omega
    obtain⟨y,hy⟩:∃y,d[k]?=some y:=⟨d[k]'(by rw[HM.out];exact b0),List.getElem?_eq_getElem _⟩
    have b4:=i.out.2.1 y (List.mem_of_getElem? hy);obtain⟨bx,ox,b2,cy⟩:=yd (i.out.2.2.2.below J.out.bel) hy;subst b2;obtain⟨c0,c1,c3⟩:=HC.out wr J.out.bel;obtain⟨g,c,o,r,H,-,u⟩:=qo9 J.out.own J.out.bel.size (by omega) y;have a0:=J.out.bel.trans u
    have Q:d.take (k+1)=d.take k++[y]:=by rw[List.take_add_one,hy];rfl
    rw[<-Q]at H;have A:=hid2 a0 H;have Y:=hid2 hy J.out.emp;have X:=zq H;have HY:=hid b4
    have a1:decide ((y:Int)≠(S.tk:Int)/\0<=(y:Int)/\(y:Int)<(n:Int))=true:=by
     rw[decide_eq_true_eq];omega
    clear J H u a0 Q;go_wp2_with fail;refine(qel wr D S.tk n n (some ⟨p.eb,0,none⟩) c0 c1 (y:Int)).mono ?_;rintro e w1 ⟨rfl,rfl⟩;rw[a1];clear a1 c3;go_wp2_with(at_builtin;refine Lib.wpList_append_run _ rfl _ _ _ _ rfl _ _ rfl rfl _ _ r ?_)
    obtain⟨e0,e1,e3⟩:=HC.out o A.out.1;refine(qem o D p.eb n n y (isF E y) e1 HY.out.1 (e3 y HY.out.1)).mono ?_;rintro e w2 ⟨rfl,rfl⟩;clear r c0 c1 cy e0 e1 e3
    cases P:isF E y
    ·have HQ:Hid (∀t,t<S.tk+1->((∃a∈d.take (k+1),Got L a t)↔(fun t=>FstL S d t\/((∀z∈d,Nul S z)/\(t:Int)=C)) t)):=fun t Q=>by
      have b1:¬Nul S y:=fun e=>by rw[<-i.out.1.emp,P]at e;cases e
      exact qqe i.out.1.ways i.out.2.2.1 i.out.2.1 Y.out.1 Y.out.2 b1 (by omega) _
     have HL:Hid ((d.take (k+1)).length=k+1/\∀x∈d.take (k+1),x<n):=⟨by rw[List.length_take,HM.out];omega,fun x s=>(i.out.2.1 x (List.mem_of_mem_take s)).1⟩
     clear P Y;go_wp2_with fail;refine(HD.out w2 _ _ _ (k+1) HL.out.1 (by omega) A.out.1 A.out.2 HL.out.2).mono ?_;rintro e w3 M;have HT:=hid (R.out w2 w3 e _ A.out.1 HQ.out M);obtain⟨l,I,K,rfl,-⟩:=M;go_wp2_with fail;go_ret;exact HT.out
    ·have HF:Hid (OL W w2 S d (some ⟨g,0,none⟩) c (k+1)):=by
      refine⟨A.out.1,A.out.2,fun z v=>?_⟩;rw[List.take_add_one,List.mem_append]at v
      rcases v with v | v
      ·exact Y.out.2 z v
      ·rw[Y.out.1]at v;rw[Option.toList_some,List.mem_singleton]at v;subst v;exact(i.out.1.emp z).1 P
     clear P Y A;go_wp2_with fail;go_roundg (m - (k+1))
     case measure=>omega
     case rel=>exact⟨k+1,some ⟨g,0,none⟩,c,by simp,by simp,by omega,X.1,X.2,Nat.le_refl _,HF⟩
   ·have a9:k=m:=by omega
    subst a9
    have a5:¬(k:Int)<(k:Int):=by omega
    go_wp2_with fail;go_meet;exact⟨q,j,rfl,a3,a4,J⟩
 case rest =>
  obtain⟨w8,c4⟩:∃w8,w8=wc:=⟨_,rfl⟩
  subst wc;obtain⟨q,j,rfl,a3,a4,J⟩:=hcut;have Q:=List.take_of_length_le (by rw[HM.out];exact Nat.le_refl _)
  have G:Hid (Below W.heap.size W w8/\w8.ownsRow W.heap.size 3 1 (.slice q m j) m (natC d)/\∀z∈d,Nul S z):=by
   have Z:=J.out.own;have U:=J.out.emp;rw[Q]at Z U;exact⟨J.out.bel,Z,U⟩
  clear J T Q;obtain⟨c0,c1,c3⟩:=HC.out w8 G.out.1;go_wp2_with fail;refine(qbt w8 D n n (some ⟨p.eb,0,none⟩) c1 C).mono ?_;rintro e w1 ⟨rfl,rfl⟩
  rcases a7 with rfl | ⟨hb0,u⟩
  ·have hd:decide (0<=(-1:Int)/\(-1:Int)<(n:Int))=false:=by
    rw[decide_eq_false_iff_not];omega
   rw[hd]
   have HQ:Hid (∀t,t<S.tk+1->((∃a∈d,Got L a t)↔(FstL S d t\/((∀z∈d,Nul S z)/\(t:Int)=-1)))):=fun t Q=>by
    rw[qmn i.out.1.ways i.out.2.2.1 i.out.2.1 G.out.2.2 (by omega)];exact⟨.inl,fun h=>h.elim id (fun h=>by have:=h.2;omega)⟩
   clear hd c0 c1 c3;go_wp2_with fail;refine(HD.out w1 _ _ _ m HM.out (by omega) G.out.1 G.out.2.1 (fun x s=>(i.out.2.1 x s).1)).mono ?_;rintro e w3 M;have HT:=hid (R.out w1 w3 e _ G.out.1 HQ.out M);obtain⟨l,I,K,rfl,-⟩:=M;go_wp2_with fail;go_ret;exact HT.out
  ·obtain⟨b,rfl⟩:∃b:Nat,C=(b:Int):=⟨C.toNat,by omega⟩
   have a8:b<=S.tk:=by omega
   have hd:decide (0<=(b:Int)/\(b:Int)<(n:Int))=true:=by
    rw[decide_eq_true_eq];omega
   rw[hd];obtain⟨g,c,o,r,H,-,u⟩:=qo9 G.out.2.1 G.out.1.size (by omega) b;have A:=hid2 (G.out.1.trans u) H
   have HQ:Hid (∀t,t<S.tk+1->((∃a∈d++[b],Got L a t)↔(FstL S d t\/((∀z∈d,Nul S z)/\(t:Int)=(b:Int))))):=fun t Q=>by
    have Z:=qmn i.out.1.ways i.out.2.2.1 i.out.2.1 G.out.2.2 (t:=t) (by omega);have U:=i.out.1.ways.got_tok (b:=b) (t:=t) a8 (by omega) i.out.2.2.1 (fun t P=>by have:=(qhe i.out.1.wf (Nat.le_refl _) P).1;omega) (fun x t s P=>(qhe i.out.1.wf (Nat.le_of_lt s) P).2)
    rw[<-Z]
    constructor
    ·rintro⟨a,O,hg⟩
     rcases List.mem_append.1 O with O | O
     ·exact .inl ⟨a,O,hg⟩
     ·rw[List.mem_singleton]at O;subst O;exact .inr ⟨G.out.2.2,by rw[U.1 hg]⟩
    ·rintro(⟨a,O,hg⟩ | ⟨-,he⟩)
     ·exact⟨a,List.mem_append_left _ O,hg⟩
     ·exact⟨b,by simp,U.2 (by omega)⟩
   have X:=zq H
   have a2:decide ((S.tk:Int)<(b:Int)/\(b:Int)<(n:Int))=false:=by
    rw[decide_eq_false_iff_not];omega
   clear hd H u c3;go_wp2_with fail;refine(j4 w1 D S.tk n n (some ⟨p.eb,0,none⟩) c0 c1 (b:Int)).mono ?_;rintro e w2 ⟨rfl,rfl⟩;rw[a2];clear a2 c0 c1;go_wp2_with(at_builtin;refine Lib.wpList_append_run _ rfl _ _ _ _ rfl _ _ rfl rfl _ _ r ?_)
   refine(HD.out o _ _ _ (m+1) (by rw[List.length_append,HM.out];rfl) (by omega) A.out.1 A.out.2 (fun x s=>by
    rcases List.mem_append.1 s with s | s
    ·exact(i.out.2.1 x s).1
    ·rw[List.mem_singleton]at s;subst s;omega)).mono ?_
   rintro e w3 M;have HT:=hid (R.out o w3 e _ A.out.1 HQ.out M);obtain⟨l,I,K,rfl,-⟩:=M;go_wp2_with fail;go_ret;exact HT.out
theorem qnv(F:FuncId)(j:Array Value)(K:∀(args:Array Value) (W:World),(callFunc F args).run Tryz.prog W=.ok (.enter F args) W)(d:Nat->Bool)(W:World)(l:List Nat)(a:Option Addr)(n c:Nat)(B:l.length=n)(h:Row W 1 a n c (natC l))(O:n<=1000)(A:∀V,Below W.heap.size W V->∀z∈l,Calls Tryz.prog F (#[.int .i64 (z:Int)]++j) V fun e E=>e=.returned (.bool (d z))/\Below V.heap.size V E):
  Calls Tryz.prog 128 #[.slice a n c,.func (.func F) #[] j] W fun e G=>Below W.heap.size W G/\((e=.returned (.int .i64 (-1))/\∀z∈l,d z=false)\/∃i:Nat,e=.returned (.int .i64 (i:Int))/\i<n/\∃z∈l,d z=true):=by
 have D:=hid A;have C:=hid h;have u:=hid B;have L:=zk h;clear h A B;go_enter Tryz.func128,Tryz.ntmps128;go_wp2_with fail
 go_loopg [8] n (fun kx s8 wr=>∃i:Nat,s8=.int .i64 i/\i<=n/\n - i<=kx/\Hid (Below W.heap.size W wr/\∀z∈l.take i,d z=false))
 case atStart=>exact⟨0,rfl,Nat.zero_le _,by omega,(⟨Below.refl _ _,fun q I=>by cases I⟩:Below W.heap.size W W/\∀z∈l.take 0,d z=false)⟩
 case round =>
  obtain⟨i,rfl,N,M,J⟩:=hrel
  by_cases k:i<n
  ·have m:(i:Int)<(n:Int):=by omega
   obtain⟨z,s⟩:∃z,l[i]?=some z:=⟨l[i]'(by rw[u.out];exact k),List.getElem?_eq_getElem _⟩
   obtain⟨b,o,rfl,H⟩:=yd (C.out.below J.out.1) s;have t:=hid (D.out wr J.out.1 z (List.mem_of_getElem? s));have v:=hid s;clear s;go_wp2_with fail;refine t.out.mono ?_;rintro e V ⟨rfl,p⟩;clear H t
   cases r:d z
   ·have g:Hid (Below W.heap.size W V/\∀z∈l.take (i+1),d z=false):=by
     refine⟨qd J.out.1 p,fun y f=>?_⟩;rw[List.take_add_one,List.mem_append]at f
     rcases f with f | f
     ·exact J.out.2 y f
     ·rw[v.out]at f;rw[Option.toList_some,List.mem_singleton]at f;subst f;exact r
    clear J r p;go_wp2_with fail;go_roundg (n - (i+1))
    case measure=>omega
    case rel=>exact⟨i+1,by simp,by omega,Nat.le_refl _,g⟩
   ·have g:Hid (Below W.heap.size W V/\∃z∈l,d z=true):=⟨qd J.out.1 p,z,List.mem_of_getElem? v.out,r⟩
    clear J r p;go_wp2_with fail;go_ret;exact⟨g.out.1,.inr ⟨i,rfl,k,g.out.2⟩⟩
  ·have m:¬(i:Int)<(n:Int):=by omega
   have g:Hid (Below W.heap.size W wr/\∀z∈l,d z=false):=by
    have:i=n:=by omega
    subst this;have x:=J.out.2;rw[List.take_of_length_le (by rw[u.out];exact Nat.le_refl _)]at x
    exact⟨J.out.1,x⟩
   clear J;go_wp2_with fail;go_ret;exact⟨g.out.1,.inl ⟨rfl,g.out.2⟩⟩
theorem qd4(F:FuncId)(d:Array Value)(m:∀(args:Array Value) (W:World),(callFunc F args).run Tryz.prog W=.ok (.enter F args) W)(f:Nat->Bool)(W:World)(l:List Nat)(a:Option Addr)(n c:Nat)(q:l.length=n)(h:Row W 1 a n c (natC l))(v:n<=1000)(o:∀V,Below W.heap.size W V->∀z∈l,Calls Tryz.prog F (#[.int .i64 (z:Int)]++d) V fun e s=>e=.returned (.bool (f z))/\Below V.heap.size V s):
  Calls Tryz.prog 105 #[.slice a n c,.func (.func F) #[] d] W fun e t=>e=.returned (.bool (l.any f))/\Below W.heap.size W t:=by
 have r:=hid (qnv F d m f W l a n c q h v o);clear h o m q;go_enter Tryz.func105,Tryz.ntmps105;go_wp2_with fail;refine r.out.mono ?_;rintro e V ⟨p,⟨rfl,g⟩ | ⟨i,rfl,y,b⟩⟩
 ·have j:l.any f=false:=by
   rw[List.any_eq_false]
   exact fun z x=>by rw[g z x];simp
  have k:Hid (Ending.returned (.bool false)=Ending.returned (.bool (l.any f))/\Below W.heap.size W V):=⟨by rw[j],p⟩
  clear g j;go_wp2_with fail;refine bodyPost_ret (results_tmp rfl _ _ _) rfl ?_;exact k.out
 ·have j:l.any f=true:=by
   rw[List.any_eq_true];exact b
  have k:Hid (Ending.returned (.bool true)=Ending.returned (.bool (l.any f))/\Below W.heap.size W V):=⟨by rw[j],p⟩
  clear b j
  have u:(0:Int)<=(i:Int):=by omega
  go_wp2_with fail;refine bodyPost_ret (results_tmp rfl _ _ _) rfl ?_;exact k.out
theorem qq0(args:Array Value)(w:World):(callFunc 104 args).run Tryz.prog w=.ok (.enter 104 args) w:=yi Tryz.func104 (by kernel_rfl) (by kernel_rfl) args w
theorem qq1(args:Array Value)(w:World):(callFunc 106 args).run Tryz.prog w=.ok (.enter 106 args) w:=yi Tryz.func106 (by kernel_rfl) (by kernel_rfl) args w
theorem qq2(args:Array Value)(w:World):(callFunc 79 args).run Tryz.prog w=.ok (.enter 79 args) w:=yi Tryz.func79 (by kernel_rfl) (by kernel_rfl) args w
theorem qq3(args:Array Value)(w:World):(callFunc 109 args).run Tryz.prog w=.ok (.enter 109 args) w:=yi Tryz.func109 (by kernel_rfl) (by kernel_rfl) args w
theorem qpd(W:World)(a b z:Nat)(c0:W.cell? ⟨a,0,none⟩=some (.int .i64 (b:Int))):
  Calls Tryz.prog 106 #[.int .i64 (z:Int),.pointer (some ⟨a,0,none⟩)] W fun e V=>e=.returned (.bool (decide (z<b)))/\Below W.heap.size W V:=by
 go_enter Tryz.func106,Tryz.ntmps106;go_wp2_with fail;go_ret;exact⟨by simp,Below.refl _ _⟩
theorem qpe(W:World)(k m:Nat)(q:QR)(c0:W.cell? ⟨k,0,none⟩=some (.int .i64 (m:Int)))(h:Row W 1 q.2.1 q.1.r.length q.2.2 (natC q.1.r))(s:q.1.r.length<=1000):
  Calls Tryz.prog 104 #[.agg #[.int .i64 q.1.l,.slice q.2.1 q.1.r.length q.2.2,.int .i64 q.1.lv,.int .i64 q.1.a],.pointer (some ⟨k,0,none⟩)] W fun e V=>e=.returned (.bool (q.1.r.any (fun z=>decide (z<m))))/\Below W.heap.size W V:=by
 obtain⟨⟨j,c,b,i⟩,d,f⟩:=q;simp only at h s ⊢;have n:Below W.heap.size W (W.alloc (.cells #[.int .i64 j,.slice d c.length f,.int .i64 b,.int .i64 i] 56)):=qb _ _
 have p:Hid (Calls Tryz.prog 105 #[.slice d c.length f,.func (.func 106) #[] #[.pointer (some ⟨k,0,none⟩)]] (W.alloc (.cells #[.int .i64 j,.slice d c.length f,.int .i64 b,.int .i64 i] 56)) fun e V=>e=.returned (.bool (c.any (fun z=>decide (z<m))))/\Below W.heap.size W V):=by
  refine(qd4 106 #[.pointer (some ⟨k,0,none⟩)] qq1 (fun z=>decide (z<m)) _ c d c.length f rfl (h.below n) s (fun V t z _=>?_)).mono ?_
  ·exact qpd V k m z (qt t (qt n c0))
  ·rintro e V ⟨rfl,o⟩;exact⟨rfl,qd n o⟩
 have g:(W.alloc (.cells #[.int .i64 j,.slice d c.length f,.int .i64 b,.int .i64 i] 56)).heap[W.heap.size]?=some (.cells #[.int .i64 j,.slice d c.length f,.int .i64 b,.int .i64 i] 56 (0,0)):=heap_alloc_new _ _
 have c1:(W.alloc (.cells #[.int .i64 j,.slice d c.length f,.int .i64 b,.int .i64 i] 56)).cell? ⟨W.heap.size,1,none⟩=some (.slice d c.length f):=by rw[qe g];rfl
 clear h n g c0;go_enter Tryz.func104,Tryz.ntmps104
 go_upto_region 1 with fail
 generalize W.alloc _=U at p c1 ⊢;go_wp2_with fail;refine p.out.mono ?_;rintro e V ⟨rfl,o⟩;go_wp2_with fail;go_ret;exact⟨rfl,o⟩
theorem qpf(W:World)(f d b n c z:Nat)(a:Option Addr)(j:W.cell? ⟨f,0,none⟩=some (.pointer (some ⟨d,0,none⟩)))(c0:W.cell? ⟨d,0,none⟩=some (.int .i64 (b:Int)))(c1:W.cell? ⟨d,1,none⟩=some (.slice a n c)):
  Calls Tryz.prog 109 #[.int .i64 (z:Int),.pointer (some ⟨f,0,none⟩)] W fun e V=>e=.returned (.bool (!decide (z≠b/\z<n)))/\Below W.heap.size W V:=by
 have hd:decide ((z:Int)≠(b:Int)/\0<=(z:Int)/\(z:Int)<(n:Int))=decide (z≠b/\z<n):=by
  apply decide_eq_decide.2
  constructor
  ·rintro⟨g,-,h⟩;exact⟨by omega,by omega⟩
  ·rintro⟨g,h⟩;exact⟨by omega,by omega,by omega⟩
 generalize decide (z≠b/\z<n)=i at hd ⊢;go_enter Tryz.func109,Tryz.ntmps109;go_wp2_with fail;refine(qel W d b n c a c0 c1 (z:Int)).mono ?_;rintro e w1 ⟨rfl,rfl⟩;rw[hd];clear hd;go_wp2_with fail;go_ret;exact⟨rfl,Below.refl _ _⟩
def shR (h:SHd) (g c:Nat):SHd:=⟨h.na,h.nc,h.la,h.lc,h.aa,h.ac,some ⟨g,0,none⟩,c⟩
theorem qbk{qs:List QR}{rs:List SR}(h:qs.map (·.1)=rs)(f:SR->Bool):(qs.filter (fun q=>f q.1)).map (·.1)=rs.filter f:=by
 subst h
 induction qs with
 | nil=>rfl
 | cons q qs ih =>
  rw[List.map_cons,List.filter_cons,List.filter_cons]
  split
  ·rw[List.map_cons,ih]
  ·exact ih
structure EL (w wr:World) (fb n k:Nat) (fd:List Bool):Prop where
 bel:Below w.heap.size w wr
 row:∃Ed:List Bool,Ed.length=n/\wr.ownsRow w.heap.size 4 1 (.slice (some ⟨fb,0,none⟩) n n) n (booC Ed)/\∀x,isF Ed x=if x<k then false else isF fd x
theorem EL.put{w wr:World}{a n k:Nat}{fd:List Bool}(h:EL w wr a n k fd)(l:k<n):EL w (wr.setCell ⟨a,k,none⟩ (.bool false)) a n (k+1) fd:=by
 obtain⟨g,i,d,j⟩:=h.row;refine⟨h.bel.setCell (p:=⟨a,k,none⟩) (qw d (b:=a) rfl).1 _,g.set k false,by rw[List.length_set];exact i,?_,fun x=>?_⟩
 ·rw[qb8];exact(d.stored k (.bool false)).1
 ·unfold isF;rw[List.getElem?_set]
  by_cases f:k=x
  ·subst f;rw[if_pos rfl,if_pos (by omega),if_pos (Nat.lt_succ_self k)];rfl
  ·rw[if_neg f];have:=j x;unfold isF at this;rw[this]
   by_cases c:x<k
   ·rw[if_pos c,if_pos (by omega)]
   ·rw[if_neg c,if_neg (by omega)]
theorem qi9(w:World)(h:SHd)(S:Sp)(n:Nat)(a3:n=S.tk+1+S.nt)(t:WF S)(R:IsSp w h S):
  Calls Tryz.prog 76 #[sv h S] w fun e T=>∃eb l,e=.returned (.slice (some ⟨eb,0,none⟩) n n)/\l.length=n/\T.ownsRow w.heap.size 4 1 (.slice (some ⟨eb,0,none⟩) n n) n (booC l)/\(∀x,isF l x=true↔Nul S x)/\Below w.heap.size w T:=by
 obtain⟨qs,Q,A,a4⟩:=qpc R.rl;have b3:=(List.getElem?_eq_some_iff.1 t.hd).1
 have o:S.rs.length<=1000:=by have:=t.nr;omega
 have I:Below w.heap.size w (w.alloc (.cells (sC h S) 31)):=qb _ _;have s:(w.alloc (.cells (sC h S) 31)).heap[w.heap.size]?=some (.cells (sC h S) 31 (0,0)):=heap_alloc_new _ _;have C:=hid3 t R a3
 have Y:Hid (qs.map (·.1)=S.rs/\∀q∈qs,Row w 1 q.2.1 q.1.r.length q.2.2 (natC q.1.r)/\q.1.r.length<=1000):=⟨Q,fun q P=>⟨a4 q P,by
  have:q.1∈S.rs:=by rw[<-Q];exact List.mem_map_of_mem P
  have:=(t.rr q.1 this).1
  omega⟩⟩
 have a8:=hid A
 have c9:(S.tk:Int)<(n:Int):=by omega
 have b9:min (S.tk:Int) (n:Int)=(S.tk:Int):=by omega
 have c8:=zk A;have a7:=t.tk;clear t R a3 Q A a4;unfold sv;have e1:sC h S=#[.int .i64 (S.tk:Int),.int .i64 (S.nt:Int),.int .i64 (S.st:Int),.int .i64 S.ex,.slice h.na S.nm.length h.nc,.slice h.la S.lv.length h.lc,.slice h.aa S.az.length h.ac,.slice h.ra S.rs.length h.rc]:=rfl;rw[e1];go_enter Tryz.func76,Tryz.ntmps76
 go_upto_region 1 with fail
 rw[<-e1];clear e1;generalize w.alloc (.cells (sC h S) 31)=W0 at I s ⊢
 obtain⟨d,U⟩:∃d,Hid (d=w.heap.size):=⟨_,rfl⟩
 rw[<-U.out]at s ⊢;obtain⟨-,-,-,-,-,-,-,G⟩:=sbox s;have f7:=qj s 7;have v:=hid2 I s;clear I s;go_wp2_with fail;refine(qff W0 qs h.ra S.rs.length h.rc (a8.out.below v.out.1) b3 o).mono ?_;rintro e W1 ⟨g,c,rfl,z,K⟩;clear G f7;have b7:=(qw z (b:=g) rfl).1
 have a:Hid (Below w.heap.size w W1/\W1.heap[d]?=some (.cells (sC h S) 31 (0,0))/\W1.ownsRow W0.heap.size 56 4 (.slice (some ⟨g,0,none⟩) S.rs.length c) S.rs.length (srC qs)/\d<g/\w.heap.size<=g):=⟨qd v.out.1 K,qf K v.out.2,z,by have:=(Array.getElem?_eq_some_iff.1 v.out.2).1;omega,by have:=v.out.1.size;omega⟩
 clear z K;go_wp2_with fail;refine(qib 104 #[.pointer (some ⟨d,0,none⟩)] qq0 (fun q=>hasT S.tk q.1) W1 qs W0.heap.size g S.rs.length c a.out.2.2.1 o (fun V hV q P=>?_)).mono ?_
 ·have E:V.heap[d]?=some (.cells (sC h S) 31 (0,0)):=by
   rw[hV.block d (Array.getElem?_eq_some_iff.1 a.out.2.1).1 (fun e=>by have:=a.out.2.2.2.1;omega)]
   exact a.out.2.1
  have a9:=a.out.1.trans (hV.below a.out.1.size (fun k hk e=>by have:=a.out.2.2.2.2;omega))
  exact qpe V d S.tk q (sbox E).1 ((Y.out.2 q P).1.below a9) (Y.out.2 q P).2
 rintro e D ⟨m,rfl,b6,i,N⟩;have a0:=a.out.1.trans (N.below a.out.1.size (fun k hk e=>by have:=a.out.2.2.2.2;omega))
 have B:D.heap[d]?=some (.cells (sC h S) 31 (0,0)):=by
  rw[N.block d (Array.getElem?_eq_some_iff.1 a.out.2.1).1 (fun e=>by have:=a.out.2.2.2.1;omega)]
  exact a.out.2.1
 have G:D.cell? ⟨d,7,none⟩=some (.slice h.ra S.rs.length h.rc):=by obtain⟨-,-,-,-,-,-,-,G⟩:=sbox B;exact G
 have f7:=qj B 7
 have f:Hid (Below w.heap.size w (D.setCell ⟨d,7,none⟩ (.slice (some ⟨g,0,none⟩) m c))/\(D.setCell ⟨d,7,none⟩ (.slice (some ⟨g,0,none⟩) m c)).heap[d]?=some (.cells (sC (shR h g c) (noT S)) 31 (0,0))/\IsSp (D.setCell ⟨d,7,none⟩ (.slice (some ⟨g,0,none⟩) m c)) (shR h g c) (noT S)/\m=(noT S).rs.length):=by
  have O:m=(noT S).rs.length:=by
   have E:=i.1;rw[j1]at E
   have F:(qs.filter (fun q=>!hasT S.tk q.1)).length=(S.rs.filter (fun r=>!hasT S.tk r)).length:=by rw[<-qbk Y.out.1 (fun r=>!hasT S.tk r),List.length_map]
   have h3:m=(qs.filter (fun q=>!hasT S.tk q.1)).length:=Nat.eq_of_mul_eq_mul_right (by decide:0<4) E.symm;rw[h3];exact F
  have y:Below w.heap.size w (D.setCell ⟨d,7,none⟩ (.slice (some ⟨g,0,none⟩) m c)):=a0.setCell (p:=⟨d,7,none⟩) (by show w.heap.size<=d;rw[U.out];exact Nat.le_refl _) _
  refine⟨y,?_,⟨C.out.2.1.nm.below y,C.out.2.1.lv.below y,C.out.2.1.az.below y,qs.filter (fun q=>!hasT S.tk q.1),qbk Y.out.1 (fun r=>!hasT S.tk r),?_,fun q P=>?_⟩,O⟩
  ·rw[setCell_eq_setRow D d 7 _ 31 (0,0) _ B,O];exact setRow_heap _ _ _ _ 31 _ B
  ·rw[<-O]
   exact Row.of_own (qh i (fun j hj=>by
    cases hj
    exact Below.heap_setCell _ _ _ _ (fun e=>by have h7:=a.out.2.2.2.1;have e:g=d:=e;omega)))
  ·exact((Y.out.2 q (List.mem_filter.1 P).1).1).below y
 have HY:Hid (∀V:World,Below (D.setCell ⟨d,7,none⟩ (.slice (some ⟨g,0,none⟩) m c)).heap.size (D.setCell ⟨d,7,none⟩ (.slice (some ⟨g,0,none⟩) m c)) V->Calls Tryz.prog 107 #[.agg (sC (shR h g c) (noT S))] V fun e T=>BRes V T n (Der (noT S)) e):=fun V hV=>qb9 V (shR h g c) (noT S) n C.out.2.2 (qtx C.out.1) (f.out.2.2.1.below hV)
 clear N a0 B i
 go_upto_region 2 with fail
 clear G f7;generalize D.setCell ⟨d,7,none⟩ (.slice (some ⟨g,0,none⟩) m c)=W3 at f HY ⊢;obtain⟨c0,c1,c2,c3,c4,c5,c6,G⟩:=sbox f.out.2.1;have Z:Hid (Calls Tryz.prog 107 #[.agg #[.int .i64 ((noT S).tk:Int),.int .i64 ((noT S).nt:Int),.int .i64 ((noT S).st:Int),.int .i64 (noT S).ex,.slice (shR h g c).na (noT S).nm.length (shR h g c).nc,.slice (shR h g c).la (noT S).lv.length (shR h g c).lc,.slice (shR h g c).aa (noT S).az.length (shR h g c).ac,.slice (shR h g c).ra (noT S).rs.length (shR h g c).rc]] W3 fun e T=>BRes W3 T n (Der (noT S)) e):=HY.out W3 (Below.refl _ _);go_wp2_with fail;refine Z.out.mono ?_;rintro e W4 ⟨H,fd,rfl,M,a1,a6,L⟩;clear c0 c1 c2 c3 c4 c5 c6 G Z;have a5:=qf L f.out.2.1;have c0:W4.cell? ⟨d,0,none⟩=some (.int .i64 (S.tk:Int)):=(sbox a5).1
 have HE:Hid (EL w W4 H n 0 fd):=⟨qd f.out.1 L,fd,M,zc a1 f.out.1.size,fun x=>by rw[if_neg (Nat.not_lt_zero x)]⟩
 have HT:=hid2 a6 M;clear a5 M a1 a6 L f HY
 go_upto_block 0 with fail
 clear c0
 go_cut [18] (fun s18 wd=>Hid (EL w wd H n S.tk fd))
 case first =>
  go_wp2_with fail
  go_loopg [18] S.tk (fun kx s18 wr=>∃k:Nat,s18=.int .i64 k/\k<=S.tk/\S.tk - k<=kx/\Hid (EL w wr H n k fd))
  case atStart=>exact⟨0,rfl,Nat.zero_le _,by omega,HE⟩
  case round =>
   clear HE;obtain⟨k,rfl,hk,hg,J⟩:=hrel
   by_cases b8:k<S.tk
   ·have a2:(k:Int)<(S.tk:Int):=by omega
    have b0:k<n:=by omega
    have b5:(k:Int)<(n:Int):=by omega
    obtain⟨l,E,F,-⟩:=J.out.row
    obtain⟨u,cu⟩:∃u,wr.cell? ⟨H,k,none⟩=some u:=by
     have hl:=F.1
     have b2:k<(booC l).length:=by omega
     exact⟨(booC l)[k],by rw[F.cellAt k (by omega)];exact List.getElem?_eq_getElem b2⟩
    have fu:=F.frozenAt k;have X:=hid (J.out.put b0);clear J E F;go_wp2_with fail;go_roundg (S.tk - (k+1))
    case measure=>omega
    case rel=>exact⟨k+1,by simp,by omega,Nat.le_refl _,X⟩
   ·have a2:¬(k:Int)<(S.tk:Int):=by omega
    have X:Hid (EL w wr H n S.tk fd):=by
     have:k=S.tk:=by omega
     subst this;exact J.out
    clear J;go_wp2_with fail;go_meet;exact X
 case rest =>
  obtain⟨w8,d0⟩:∃w8,w8=wc:=⟨_,rfl⟩
  subst wc
  have X:Hid (∃l,(l:List Bool).length=n/\w8.ownsRow w.heap.size 4 1 (.slice (some ⟨H,0,none⟩) n n) n (booC l)/\(∀x,isF l x=true↔Nul S x)/\Below w.heap.size w w8):=by
   obtain⟨l,E,F,h3⟩:=hcut.out.row;refine⟨l,E,F,fun x=>?_,hcut.out.bel⟩;rw[h3 x]
   by_cases hx:x<S.tk
   ·rw[if_pos hx];exact⟨fun e=>(by cases e),fun e=>by have:=(qmo C.out.1 e).1;omega⟩
   ·rw[if_neg hx,<-qms C.out.1 (by omega)]
    constructor
    ·intro hf;exact(HT.out.1 x true (by rw[vy (qjw hf),hf])).1 rfl
    ·intro hd
     have b4:x<fd.length:=by
      have:=(qmo C.out.1 ((qms C.out.1 (by omega)).1 hd)).2;rw[HT.out.2,C.out.2.2];exact this
     have:=(HT.out.1 x (isF fd x) (vy b4)).2 hd;exact this
  clear hcut HE;go_wp2_with fail;go_ret;obtain⟨l,E⟩:=X.out;exact⟨H,l,rfl,E⟩
structure NSp (S:Sp) (n:Nat):Prop where
 wf:WF S
 nn:n=S.tk+1+S.nt
 sy:∀r∈S.rs,∀y∈r.r,y<n/\y≠S.tk
 rc:∀x,S.tk<x->x<n->Rch S x
 nr:S.rs.length<=40
 ln:∀r∈S.rs,r.r.length<=20
theorem ql3(W:World)(c k n m:Nat)(a:Option Addr)(c0:W.cell? ⟨c,0,none⟩=some (.int .i64 (k:Int)))(c1:W.cell? ⟨c,1,none⟩=some (.slice a n m))(q:QR)(h:Row W 1 q.2.1 q.1.r.length q.2.2 (natC q.1.r))(F:q.1.r.length<=1000)(p:∀y∈q.1.r,y≠k/\y<n):
  Calls Tryz.prog 80 #[.pointer (some ⟨c,0,none⟩),.agg #[.int .i64 q.1.l,.slice q.2.1 q.1.r.length q.2.2,.int .i64 q.1.lv,.int .i64 q.1.a]] W fun e V=>e=.returned (.bool (okL k n q.1))/\Below W.heap.size W V:=by
 obtain⟨⟨d,f,b,j⟩,g,i⟩:=q;simp only at h F p ⊢;have o:Below W.heap.size W ((W.alloc (.cells #[.pointer (some ⟨c,0,none⟩)] 98)).alloc (.cells #[.int .i64 d,.slice g f.length i,.int .i64 b,.int .i64 j] 56)):=qd (qb _ _) (qb _ _);have u:(W.alloc (.cells #[.pointer (some ⟨c,0,none⟩)] 98)).heap.size=W.heap.size+1:=qz _ _;have v:((W.alloc (.cells #[.pointer (some ⟨c,0,none⟩)] 98)).alloc (.cells #[.int .i64 d,.slice g f.length i,.int .i64 b,.int .i64 j] 56)).heap[W.heap.size]?=some (.cells #[.pointer (some ⟨c,0,none⟩)] 98 (0,0)):=qf (qb _ _) (heap_alloc_new _ _)
 have C:((W.alloc (.cells #[.pointer (some ⟨c,0,none⟩)] 98)).alloc (.cells #[.int .i64 d,.slice g f.length i,.int .i64 b,.int .i64 j] 56)).heap[W.heap.size+1]?=some (.cells #[.int .i64 d,.slice g f.length i,.int .i64 b,.int .i64 j] 56 (0,0)):=by
  have:=heap_alloc_new (W.alloc (.cells #[.pointer (some ⟨c,0,none⟩)] 98)) (.cells #[.int .i64 d,.slice g f.length i,.int .i64 b,.int .i64 j] 56);rw[u]at this;exact this
 have x:=hid o
 have D:Hid (f.any (fun z=>!decide (z≠k/\z<n))=false):=by
  show _=false;rw[List.any_eq_false];intro y I;have:=p y I;simp[this]
 have e0:=qt o c0;have s:=qt o c1
 have A:Hid (Calls Tryz.prog 105 #[.slice g f.length i,.func (.func 109) #[] #[.pointer (some ⟨W.heap.size,0,none⟩)]] ((W.alloc (.cells #[.pointer (some ⟨c,0,none⟩)] 98)).alloc (.cells #[.int .i64 d,.slice g f.length i,.int .i64 b,.int .i64 j] 56)) fun e V=>e=.returned (.bool false)/\Below W.heap.size W V):=by
  refine(qd4 109 #[.pointer (some ⟨W.heap.size,0,none⟩)] qq3 (fun z=>!decide (z≠k/\z<n)) _ f g f.length i rfl (h.below o) F (fun V B z _=>?_)).mono ?_
  ·exact qpf V W.heap.size c k n m z a (by rw[qe (qf B v)];rfl) (qt B e0) (qt B s)
  ·rintro e V ⟨rfl,v⟩;rw[D.out];exact⟨rfl,qd o v⟩
 have E:((W.alloc (.cells #[.pointer (some ⟨c,0,none⟩)] 98)).alloc (.cells #[.int .i64 d,.slice g f.length i,.int .i64 b,.int .i64 j] 56)).cell? ⟨W.heap.size,0,none⟩=some (.pointer (some ⟨c,0,none⟩)):=by rw[qe v];rfl
 have G:((W.alloc (.cells #[.pointer (some ⟨c,0,none⟩)] 98)).alloc (.cells #[.int .i64 d,.slice g f.length i,.int .i64 b,.int .i64 j] 56)).cell? ⟨W.heap.size+1,0,none⟩=some (.int .i64 d):=by rw[qe C];rfl
 have H:((W.alloc (.cells #[.pointer (some ⟨c,0,none⟩)] 98)).alloc (.cells #[.int .i64 d,.slice g f.length i,.int .i64 b,.int .i64 j] 56)).cell? ⟨W.heap.size+1,1,none⟩=some (.slice g f.length i):=by rw[qe C];rfl
 have t:okL k n ⟨d,f,b,j⟩=decide ((k:Int)<d/\d<(n:Int)):=rfl;rw[t];clear t h p o u v C c0 c1 D
 cases hd:decide ((k:Int)<d/\d<(n:Int))
 ·go_enter Tryz.func80,Tryz.ntmps80
  go_upto_region 1 with fail
  generalize ((W.alloc (.cells #[.pointer (some ⟨c,0,none⟩)] 98)).alloc (.cells #[.int .i64 d,.slice g f.length i,.int .i64 b,.int .i64 j] 56))=U at A x e0 s E G H ⊢;go_wp2_with fail;refine(j4 U c k n m a e0 s d).mono ?_;rintro e w1 ⟨rfl,rfl⟩;rw[hd];clear hd;go_wp2_with fail;go_ret;exact⟨rfl,x.out⟩
 ·go_enter Tryz.func80,Tryz.ntmps80
  go_upto_region 1 with fail
  generalize ((W.alloc (.cells #[.pointer (some ⟨c,0,none⟩)] 98)).alloc (.cells #[.int .i64 d,.slice g f.length i,.int .i64 b,.int .i64 j] 56))=U at A x e0 s E G H ⊢;go_wp2_with fail;refine(j4 U c k n m a e0 s d).mono ?_;rintro e w1 ⟨rfl,rfl⟩;rw[hd];clear hd;go_wp2_with fail;refine A.out.mono ?_;rintro e w2 ⟨rfl,o⟩;go_wp2_with fail;go_ret;exact⟨rfl,o⟩
theorem qpg(W:World)(p f c n d:Nat)(a:Option Addr)(o:W.cell? ⟨p,0,none⟩=some (.pointer (some ⟨f,0,none⟩)))(c0:W.cell? ⟨f,0,none⟩=some (.int .i64 (c:Int)))(c1:W.cell? ⟨f,1,none⟩=some (.slice a n d))(q:QR)(h:Row W 1 q.2.1 q.1.r.length q.2.2 (natC q.1.r))(x:q.1.r.length<=1000)(i:∀y∈q.1.r,y≠c/\y<n):
  Calls Tryz.prog 79 #[.agg #[.int .i64 q.1.l,.slice q.2.1 q.1.r.length q.2.2,.int .i64 q.1.lv,.int .i64 q.1.a],.pointer (some ⟨p,0,none⟩)] W fun e V=>e=.returned (.bool (!okL c n q.1))/\Below W.heap.size W V:=by
 have b:Below W.heap.size W (W.alloc (.cells #[.int .i64 q.1.l,.slice q.2.1 q.1.r.length q.2.2,.int .i64 q.1.lv,.int .i64 q.1.a] 56)):=qb _ _;have g:(W.alloc (.cells #[.int .i64 q.1.l,.slice q.2.1 q.1.r.length q.2.2,.int .i64 q.1.lv,.int .i64 q.1.a] 56)).heap[W.heap.size]?=some (.cells #[.int .i64 q.1.l,.slice q.2.1 q.1.r.length q.2.2,.int .i64 q.1.lv,.int .i64 q.1.a] 56 (0,0)):=heap_alloc_new _ _
 have j:Hid (Calls Tryz.prog 80 #[.pointer (some ⟨f,0,none⟩),.agg #[.int .i64 q.1.l,.slice q.2.1 q.1.r.length q.2.2,.int .i64 q.1.lv,.int .i64 q.1.a]] (W.alloc (.cells #[.int .i64 q.1.l,.slice q.2.1 q.1.r.length q.2.2,.int .i64 q.1.lv,.int .i64 q.1.a] 56)) fun e V=>e=.returned (.bool (okL c n q.1))/\Below W.heap.size W V):=by
  refine(ql3 _ f c n d a (qt b c0) (qt b c1) q (h.below b) x i).mono ?_;rintro e V ⟨rfl,z⟩;exact⟨rfl,qd b z⟩
 have m:=qt b o
 have s:(W.alloc (.cells #[.int .i64 q.1.l,.slice q.2.1 q.1.r.length q.2.2,.int .i64 q.1.lv,.int .i64 q.1.a] 56)).cell? ⟨W.heap.size,0,none⟩=some (.int .i64 q.1.l):=by rw[qe g];rfl
 have t:(W.alloc (.cells #[.int .i64 q.1.l,.slice q.2.1 q.1.r.length q.2.2,.int .i64 q.1.lv,.int .i64 q.1.a] 56)).cell? ⟨W.heap.size,1,none⟩=some (.slice q.2.1 q.1.r.length q.2.2):=by rw[qe g];rfl
 have u:(W.alloc (.cells #[.int .i64 q.1.l,.slice q.2.1 q.1.r.length q.2.2,.int .i64 q.1.lv,.int .i64 q.1.a] 56)).cell? ⟨W.heap.size,2,none⟩=some (.int .i64 q.1.lv):=by rw[qe g];rfl
 have v:(W.alloc (.cells #[.int .i64 q.1.l,.slice q.2.1 q.1.r.length q.2.2,.int .i64 q.1.lv,.int .i64 q.1.a] 56)).cell? ⟨W.heap.size,3,none⟩=some (.int .i64 q.1.a):=by rw[qe g];rfl
 generalize okL c n q.1=F at j ⊢;clear b g h i c0 c1 o;obtain⟨⟨D,E,k,C⟩,A,B⟩:=q
 simp only at *
 go_enter Tryz.func79,Tryz.ntmps79
 go_upto_region 1 with fail
 generalize W.alloc (.cells #[.int .i64 D,.slice A E.length B,.int .i64 k,.int .i64 C] 56)=U at j m s t u v ⊢;go_wp2_with fail;refine j.out.mono ?_;rintro e w2 ⟨rfl,b⟩;go_wp2_with fail;go_ret;exact⟨rfl,b⟩
structure Rlk (S:Sp) (n:Nat) (r:SR) (x:Nat):Prop where
 l:r.l=(x:Int)
 xn:x<n
 sy:∀y∈r.r,y<n/\y≠S.tk
 ln:r.r.length<=100
def LF (w W1 wr:World) (fb n:Nat) (p:FP) (E:List Bool) (S:Sp) (x:Nat) (r:SR) (WL:List (List Nat)) (k:Nat):Prop :=
 ∃p' WL',p'.eb=p.eb/\FM wr w.heap.size fb p' n S.tk E WL'/\FV W1 fb p wr p'/\FA S n x r.r WL WL' k/\∀z∈r.r.take k,Nul S z
theorem qq4{l:List Nat}{k y:Nat}(c:l[k]?=some y){P:Nat->Prop}(h:∀z∈l.take k,P z)(b:P y):∀z∈l.take (k+1),P z:=by
 intro z a;rw[List.take_add_one,List.mem_append]at a
 rcases a with a | a
 ·exact h z a
 ·rw[c]at a;rw[Option.toList_some,List.mem_singleton]at a;subst a;exact b
theorem qgu(w W:World)(m n:Nat)(p:FP)(E:List Bool)(S:Sp)(t:List (List Nat))(h:FM W w.heap.size m p n S.tk E t)(hb:Below w.heap.size w W)(hE:∀z,isF E z=true↔Nul S z)(r:SR)(x i:Nat)(q:Option Addr)(s:Nat)(h0:0<i)(hi:S.rs[i]?=some r)(U:Rlk S n r x)(d:Row w 1 q r.r.length s (natC r.r))(hI:Ins t)(hM:∃M,Mng S n M/\yf t M)(hn:2 * n<=t.length)(a2:t.length<=50000)(L:tot t<=90000):
  Calls Tryz.prog 81 #[.pointer (some ⟨m,0,none⟩),.agg #[.int .i64 r.l,.slice q r.r.length s,.int .i64 r.lv,.int .i64 r.a]] W fun e W'=>e=.returned (.tuple #[])/\∃v,v.eb=p.eb/\∃g,FM W' w.heap.size m v n S.tk E g/\FV W m p W' v/\FA S n x r.r t g r.r.length:=by
 have I:=hid4 hE hi U h0
 have HR:Hid (∀V:World,Below w.heap.size w V->Row V 1 q r.r.length s (natC r.r)):=fun V hV=>⟨d.len,d.le,d.max,d.lies.imp id fun⟨b,o,he,hc⟩=>⟨b,o,he,fun j u hu=>qt hV (hc j u hu)⟩⟩
 have HZ:=hid3 hn a2 L;have a8:=zk d;have X:=U.l
 obtain⟨c,HN⟩:∃c,Hid (r.r.length=c):=⟨_,rfl⟩
 have a6:c<=100:=by rw[<-HN.out];exact U.ln
 rw[HN.out]at a8 ⊢;rw[X];have hv:Below W.heap.size W (W.alloc (.cells #[.int .i64 (x:Int),.slice q c s,.int .i64 r.lv,.int .i64 r.a] 56)):=qb _ _;have T:(W.alloc (.cells #[.int .i64 (x:Int),.slice q c s,.int .i64 r.lv,.int .i64 r.a] 56)).heap[W.heap.size]?=some (.cells #[.int .i64 (x:Int),.slice q c s,.int .i64 r.lv,.int .i64 r.a] 56 (0,0)):=heap_alloc_new _ _
 have D:Hid (FM (W.alloc (.cells #[.int .i64 (x:Int),.slice q c s,.int .i64 r.lv,.int .i64 r.a] 56)) w.heap.size m p n S.tk E t/\FV W m p (W.alloc (.cells #[.int .i64 (x:Int),.slice q c s,.int .i64 r.lv,.int .i64 r.a] 56)) p/\Below w.heap.size w (W.alloc (.cells #[.int .i64 (x:Int),.slice q c s,.int .i64 r.lv,.int .i64 r.a] 56))/\∀k,FK m p k->k<W.heap.size):=⟨h.below hv,⟨zm hv,fun _ e=>.inl e⟩,qd hb hv,fun k U=>(h.lt U).2.1⟩
 have HB:=hid T
 have HS:Hid (W.heap.size<(W.alloc (.cells #[.int .i64 (x:Int),.slice q c s,.int .i64 r.lv,.int .i64 r.a] 56)).heap.size):=by
  show _<_;rw[qz];omega
 have O:Hid (LF w (W.alloc (.cells #[.int .i64 (x:Int),.slice q c s,.int .i64 r.lv,.int .i64 r.a] 56)) (W.alloc (.cells #[.int .i64 (x:Int),.slice q c s,.int .i64 r.lv,.int .i64 r.a] 56)) m n p E S x r t 0):=⟨p,t,rfl,D.out.1,FV.refl _ _ _,FA.begin hI hM,fun z hz=>by cases hz⟩
 have Z:=T;clear h hb hE hi U h0 d hI hM hn a2 L X hv T;go_enter Tryz.func81,Tryz.ntmps81
 go_upto_block 0 with fail
 generalize W.alloc (.cells #[.int .i64 (x:Int),.slice q c s,.int .i64 r.lv,.int .i64 r.a] 56)=W1 at D HB O HS Z ⊢
 obtain⟨P,a3⟩:∃P,Hid (P=W.heap.size):=⟨_,rfl⟩
 rw[<-a3.out]at HB HS D Z ⊢
 have N:Hid (∀(V:World) (v:FP),FV W1 m p V v->V.cell? ⟨P,0,none⟩=some (.int .i64 (x:Int))/\V.cell? ⟨P,1,none⟩=some (.slice q c s)):=fun V v hV=>by
  have hb:V.heap[P]?=some (.cells #[.int .i64 (x:Int),.slice q c s,.int .i64 r.lv,.int .i64 r.a] 56 (0,0)):=by
   rw[hV.1.block P HS.out (fun e=>by have:=D.out.2.2.2 P e;omega)]
   exact HB.out
  exact⟨by rw[qe hb];rfl,by rw[qe hb];rfl⟩
 have e0:=(N.out W1 p (FV.refl _ _ _)).2;clear Z;go_wp2_with fail;clear e0
 go_loopg [9] c (fun kx s9 wr=>∃k:Nat,s9=.int .i64 k/\k<=c/\c - k<=kx/\Hid (LF w W1 wr m n p E S x r t k))
 case atStart=>exact⟨0,rfl,Nat.zero_le _,by omega,O⟩
 case round =>
  clear O;obtain⟨k,rfl,U,hg,J⟩:=hrel
  by_cases a4:k<c
  ·have a1:(k:Int)<(c:Int):=by omega
   obtain⟨p1,B,H,F,A,hA,hT⟩:=J.out
   obtain⟨y,hy⟩:∃y,r.r[k]?=some y:=⟨r.r[k]'(by rw[HN.out];exact a4),List.getElem?_eq_getElem _⟩
   have Y:=I.out.2.2.1.sy y (List.mem_of_getElem? hy);have Q:=D.out.2.2.1.trans (FV.below D.out.1 D.out.2.2.1.size A);obtain⟨bx,ox,a7,cy⟩:=yd (HR.out wr Q) hy;subst a7;obtain⟨Z,d1⟩:=N.out wr p1 A
   obtain⟨l,X⟩:∃l,B[x]?=some l:=⟨B[x]'(by rw[hA.len];have:=HZ.out.1;have:=I.out.2.2.1.xn;omega),List.getElem?_eq_getElem _⟩
   have HC:=hid (qdl wr w.heap.size m n S.tk p1 E B F Q.size x y l X (by have:=qge X;have:=hA.tot;have:=HZ.out.2.2;omega))
   have HA:=hid (hA.lay I.out.2.2.2 I.out.2.1 I.out.2.2.1.l hy Y.2 Y.1 I.out.2.2.1.xn (by have:=HZ.out.1;omega) hT X)
   have C:=hid5 H A hy hT Y.1;clear F A hA hT X J Q H;go_wp2_with fail;refine HC.out.mono ?_;rintro e V ⟨rfl,p2,K,G,a0⟩;clear HC Z d1 cy;have R:=C.out.2.1.trans a0;obtain⟨Z,d1⟩:=N.out V p2 R;have d3:=G.c1;have d4:=G.ce C.out.2.2.2.2
   have a9:(y:Int)<(n:Int):=by have:=C.out.2.2.2.2;omega
   have f:=hid3 (K.trans C.out.1) G R;clear G a0 R K
   cases hf:isF E y
   ·rw[hf]at d4
    have HF:Hid (∃v,v.eb=p.eb/\∃g,FM V w.heap.size m v n S.tk E g/\FV W m p V v/\FA S n x r.r t g c):=by
     have a5:¬Nul S y:=fun e=>by rw[<-I.out.1,hf]at e;cases e
     refine⟨p2,f.out.1,_,f.out.2.1,D.out.2.1.trans f.out.2.2,?_⟩;rw[<-HN.out];exact HA.out.stop C.out.2.2.1 a5
    clear HA C f hf;go_wp2_with fail;refine bodyPost_ret (results_none rfl _ _ _) rfl ?_;exact⟨rfl,HF.out⟩
   ·rw[hf]at d4
    have HF:Hid (LF w W1 V m n p E S x r t (k+1)):=⟨p2,_,f.out.1,f.out.2.1,f.out.2.2,HA.out,qq4 C.out.2.2.1 C.out.2.2.2.1 ((I.out.1 y).1 hf)⟩
    clear HA C f hf;go_wp2_with fail;go_roundg (c - (k+1))
    case measure=>omega
    case rel=>exact⟨k+1,by simp,by omega,Nat.le_refl _,HF⟩
  ·have a1:¬(k:Int)<(c:Int):=by omega
   have HF:Hid (∃v,v.eb=p.eb/\∃g,FM wr w.heap.size m v n S.tk E g/\FV W m p wr v/\FA S n x r.r t g c):=by
    have:k=c:=by omega
    subst this;obtain⟨p1,B,H,F,A,hA,-⟩:=J.out;exact⟨p1,H,B,F,D.out.2.1.trans A,hA⟩
   clear J;go_wp2_with fail;go_end0;exact⟨rfl,HF.out⟩
end Go.Proofs.YtbdogaaooeoccaaGreatDoor
namespace Go.Proofs.YtbdogaaooeoccaaGreatDoor
open Go.RowKit Go.Shelf
attribute [local go_sem] Oper.semAt_some
def bw (n:Nat) (hn:0<n) (zs:List Nat) (j:Nat):Nat × Fin n:=(zs.length - 1 - j,⟨(zs[zs.length - 1 - j]?.getD 0) % n,Nat.mod_lt _ hn⟩)
def bws (n:Nat) (hn:0<n) (zs:List Nat) (k:Nat):List (Nat × Fin n):=(List.range k).map (bw n hn zs)
theorem qfy(n:Nat)(a:0<n)(zs:List Nat)(k:Nat):bws n a zs (k+1)=bws n a zs k++[bw n a zs k]:=by
 unfold bws;rw[List.range_succ,List.map_append];rfl
theorem qhr(n:Nat)(a:0<n)(zs:List Nat)(k:Nat):(bws n a zs k).length=k:=by unfold bws;simp
def encB (n:Nat) (x:Nat × Fin n):Array Value:=#[.int .i64 (x.1:Int),.int .i64 (x.2.val:Int)]
def KpB (n₀ Bs:Nat) (A B:World):Prop:=Below n₀ A B/\∀(cs:Array Value) (T:TypeId) (fr:Nat × Nat),A.heap[Bs]?=some (.cells cs T fr)->B.heap[Bs]?=some (.cells cs T fr)
theorem KpB.refl(b a:Nat)(A:World):KpB b a A A:=⟨Below.refl _ _,fun _ _ _ h=>h⟩
theorem qcp{b a:Nat}{A B C:World}(h:KpB b a A B)(k:KpB b a B C):KpB b a A C:=⟨h.1.trans k.1,fun cs T c e=>k.2 cs T c (h.2 cs T c e)⟩
theorem quv{b d:Nat}{w:World}(i:b<=w.heap.size)(W:World)(l:Nat)(o c:Obj)(g:w.heap.size<=l)(h:W.heap[l]?=some o)(a:o.isCells=false)(j:o.isWalk=false):KpB b d W (W.putObj l c):=by
 refine⟨belowK_b i W l o c g h a j,fun cs T k e=>?_⟩;rw[World.putObj_heap_other (fun f=>?_)]
 ·exact e
 ·subst f;rw[h]at e
  cases e
  cases a
theorem qsv(F:Fence)(n:Nat)(E:F.fn 130)(K:F.round=none)(hn:1<=n)(l j D len c g:Nat)(f:0<g)(a:Option Addr)(zs:List Nat)(hz:zs.length=len)(S:len<=1000)(R:len<=c/\c<=9223372036854775807)(M:∀z∈zs,z<g)(J N:List (Nat × Fin g)->World->Prop)(Z:∀d x W,J d W->d.length<len->YieldAt F (n - 1) Tryz.prog l (encB g x) W fun e s=>(e=.returned (.bool true)/\J (d++[x]) s/\KpB D j W s)\/(e=.returned (.bool false)/\N (d++[x]) s))(W:World)(t:W.heap[j]?=some (.cells #[.slice a len c] 28 (0,0)))(hc:∀V,Below D W V->Row V 1 a len c (natC zs))(Y:J [] W):
  CallsIn F n Tryz.prog 130 #[.func (.yield l) #[] #[],.pointer (some ⟨j,0,none⟩)] W fun e s=>(∃v,e=.returned v) /\
   ((∃U,U=bws g f zs len/\J U s)\/(∃d,(∃k,k<=len/\d=bws g f zs k)/\N d s)):=by
 refine callsIn_of_wp Tryz.func130 rfl E ?_ K;simp only[Tryz.ntmps130,List.size_toArray,List.length_cons,List.length_nil,Nat.reduceAdd,Nat.reduceSub,Array.replicate_succ,Array.replicate_zero,List.push_toArray,List.append_toArray,List.nil_append,List.cons_append]
 have c0:W.cell? ⟨j,0,none⟩=some (.slice a len c):=by rw[qe t];rfl
 have X:Hid (∀V,KpB D j W V->V.cell? ⟨j,0,none⟩=some (.slice a len c)/\Row V 1 a len c (natC zs)):=fun V Q=>⟨by rw[qe (Q.2 _ _ _ t)];rfl,hc V Q.1⟩
 gi_wp2
 clear c0
 gi_loopw [3] (fun i wr=>∃k m,k+m=len/\i=.int .i64 ((m:Int) - 1)/\J (bws g f zs k) wr/\KpB D j W wr) (fun i _=>(intOf i+1).toNat)
 case atStart=>exact⟨0,len,by omega,by simp,Y,KpB.refl _ _ _⟩
 case round =>
  obtain⟨k,m,a0,rfl,u,A⟩:=hrel;obtain⟨c0,B⟩:=X.out wr A
  rcases Nat.eq_zero_or_pos m with hm | hm
  ·subst hm
   have H:((0:Nat):Int) - 1=-1:=by omega
   rw[H]
   gi_wp2
   go_end0
   have:k=len:=by omega
   subst this;exact⟨⟨_,rfl⟩,.inl ⟨_,rfl,u⟩⟩
  ·obtain⟨q,rfl⟩:∃q,m=q+1:=⟨m - 1,by omega⟩
   have H:((q+1:Nat):Int) - 1=(q:Int):=by omega
   rw[H]
   obtain⟨z,r⟩:∃z,zs[q]?=some z:=⟨zs[q]'(by omega),List.getElem?_eq_getElem _⟩
   obtain⟨b,o,rfl,cz⟩:=yd B r;have h:=M z (List.mem_of_getElem? r)
   have p:bw g f zs k=(q,⟨z,h⟩):=by
    unfold bw
    have e:zs.length - 1 - k=q:=by omega
    simp only[e,r,Option.getD_some,Nat.mod_eq_of_lt h]
   obtain⟨fn,T,C,O,L,P⟩:=Z _ (bw g f zs k) wr u (by rw[qhr];omega)
   rw[p]at L P;unfold encB at L
   dsimp only at L
   have a1:(0:Int)<=(q:Int):=by omega
   have a2:(q:Int)<(len:Int):=by omega
   gi_wp2
   refine P.mono ?_;rintro e W3 (⟨rfl,G,I⟩ | ⟨rfl,y⟩)
   ·gi_wp2
    go_roundw
    case rel=>exact⟨k+1,q,by omega,by simp,by rw[qfy,p];exact G,qcp A I⟩
    case measure=>simp[intOf]
   ·gi_wp2
    refine bodyPost_ret (results_none rfl _ _ _) rfl ?_;exact⟨⟨_,rfl⟩,.inr ⟨_,⟨k+1,by omega,by rw[qfy,p]⟩,y⟩⟩
theorem qph(F:Fence)(n:Nat)(m:F.fn 130)(p:F.round=none)(A:1<=n)(f j len b d:Nat)(c:0<d)(a:Option Addr)(zs:List Nat)(B:zs.length=len)(i:len<=1000)(h:len<=b/\b<=9223372036854775807)(q:∀z∈zs,z<d)(w:World)(o:j<=w.heap.size)(g:w.heap[f]?=some (.cells #[.slice a len b] 28 (0,0)))(y:∀V,Below j w V->Row V 1 a len b (natC zs)):
  SeqStopsK F n Tryz.prog 130 #[.pointer (some ⟨f,0,none⟩)] (encB d) (KpB j f) (fun C=>C=bws d c zs len) (fun r=>∃k,k<=len/\r=bws d c zs k) len w:=fun l J t W s _ _ x u =>
 qsv F n m p A l f j len b d c a zs B i h q J t x W ((s.block f (Array.getElem?_eq_some_iff.1 g).1).trans g) (fun V v=>y V ((s.mono o).trans v)) u
end Go.Proofs.YtbdogaaooeoccaaGreatDoor
