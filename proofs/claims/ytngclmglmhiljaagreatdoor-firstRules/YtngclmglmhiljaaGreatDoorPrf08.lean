/- Texts that the proofs of the First statements stand on, part Prf08. -/
import Derived.Lib.SliceRun
import Derived.Deep.RegionHeld
import Derived.Test.YtngclmglmhiljaaGreatDoorPrf07
set_option maxHeartbeats 16000000
set_option maxRecDepth 100000
namespace Go.Proofs.YtngclmglmhiljaaGreatDoor
open Go.RowKit
theorem qoh{w:World}{b:Option Addr}{n a:Nat}{rs:List SR}(h:qci w b n a rs):∃qs:List QR,qs.map (·.1)=rs/\Row w 4 b n a (srC qs)/\∀q∈qs,Row w 1 q.2.1 q.1.r.length q.2.2 (natC q.1.r):=h
theorem qe4(W:World)(qs:List QR)(s:Option Addr)(n m:Nat)(h:Row W 4 s n m (srC qs))(p:0<n)(u:n<=1000):
  Calls Tryz.prog 40 #[.slice s n m] W fun e f=>∃g c,e=.returned (.slice (some ⟨g,0,none⟩) n c)/\f.ownsRow W.heap.size 47 4 (.slice (some ⟨g,0,none⟩) n c) n (srC qs)/\Below W.heap.size W f:=by
 have i:Below W.heap.size W (W.alloc (.cells #[] 47)):=qb _ _;have j:(W.alloc (.cells #[] 47)).heap[W.heap.size]?=some (.cells #[] 47 (0,0)):=heap_alloc_new _ _
 have r:(W.alloc (.cells #[] 47)).ownsRow W.heap.size 47 4 (.slice (some ⟨W.heap.size,0,none⟩) 0 0) 0 []:=⟨rfl,.inr ⟨W.heap.size,0,#[],rfl,Nat.le_refl _,j,Nat.le_refl _,by unfold maxLen;omega,rfl,rfl⟩⟩
 obtain⟨g,c,f,a,d,l,-⟩:=qoe u30 i62 rfl (by decide) (by decide) (qrh qs) r i.size (h.below i) (by omega) p;rw[Nat.zero_add,List.nil_append]at d;rw[Nat.zero_add]at a
 have t:Hid (f.ownsRow W.heap.size 47 4 (.slice (some ⟨g,0,none⟩) n c) n (srC qs)/\Below W.heap.size W f):=⟨d,i.trans (l.below i.size (fun k l e=>by cases e;exact absurd l (Nat.lt_irrefl _)))⟩
 obtain⟨b,o,rfl,-⟩:=h.at p;have q:(binOp .eql 29 (.slice (some ⟨b,o,none⟩) n m) (.slice none 0 0)).run Tryz.prog W=.ok (.bool false) W:=Lib.run_eql_slice_nil W 29 47 (some ⟨b,o,none⟩) n m 0 0 u30;clear r d l j i h;go_enter Tryz.func40,Tryz.ntmps40;go_wp2_with(at_builtin;refine Lib.wpList_append_run _ rfl _ _ _ _ rfl _ _ rfl rfl _ _ a ?_)
 go_ret;exact⟨g,c,rfl,t.out⟩
theorem qfq{V:World}{B g n c i:Nat}{cs:List QR}{q:QR}(h:V.ownsRow B 47 4 (.slice (some ⟨g,0,none⟩) n c) n (srC cs))(b:cs[i]?=some q):V.cell? ⟨g,i * 4,none⟩=some (.int .i64 q.1.l)/\V.cell? ⟨g,i * 4+1,none⟩=some (.slice q.2.1 q.1.r.length q.2.2)/\V.cell? ⟨g,i * 4+2,none⟩=some (.int .i64 q.1.lv)/\V.cell? ⟨g,i * 4+3,none⟩=some (.int .i64 q.1.a):=by
 have f:=h.1;rw[jq]at f;have m:i<cs.length:=(List.getElem?_eq_some_iff.1 b).1
 have k:∀j,j<4->V.cell? ⟨g,i * 4+j,none⟩=[Value.int .i64 q.1.l,.slice q.2.1 q.1.r.length q.2.2,.int .i64 q.1.lv,.int .i64 q.1.a][j]?:=fun j d=>by
  rw[h.cellAt (i * 4+j) (by omega)];exact qsa b j d
 exact⟨k 0 (by omega),k 1 (by omega),k 2 (by omega),k 3 (by omega)⟩
theorem qld(F:FuncId)(k:Array Value)(Q:∀(args:Array Value) (W:World),(callFunc F args).run Tryz.prog W=.ok (.enter F args) W)(f:QR->Bool)(W:World)(qs:List QR)(B g n c:Nat)(h:W.ownsRow B 47 4 (.slice (some ⟨g,0,none⟩) n c) n (srC qs))(U:n<=1000)(G:∀V,Below W.heap.size W V->∀q∈qs,Calls Tryz.prog F (#[.agg #[.int .i64 q.1.l,.slice q.2.1 q.1.r.length q.2.2,.int .i64 q.1.lv,.int .i64 q.1.a]]++k) V fun e s=>e=.returned (.bool (f q))/\Below V.heap.size V s):
  Calls Tryz.prog 62 #[.slice (some ⟨g,0,none⟩) n c,.func (.func F) #[] k] W fun e K=>Below W.heap.size W K/\((e=.returned (.int .i64 (-1))/\∀q∈qs,f q=false)\/∃i:Nat,e=.returned (.int .i64 (i:Int))/\i<n/\(∀q∈qs.take i,f q=false)/\∃q,qs[i]?=some q/\f q=true):=by
 have I:Hid (∀V,Below W.heap.size W V->∀q∈qs,Calls Tryz.prog F (#[.agg #[.int .i64 q.1.l,.slice q.2.1 q.1.r.length q.2.2,.int .i64 q.1.lv,.int .i64 q.1.a]]++k) V fun e s=>e=.returned (.bool (f q))/\Below V.heap.size V s):=G;have C:Hid (W.ownsRow B 47 4 (.slice (some ⟨g,0,none⟩) n c) n (srC qs)):=h;have H:=h.1;rw[jq]at H
 have A:Hid (qs.length=n):=by show qs.length=n;omega
 have R:=z8 h;clear h G H;go_enter Tryz.func62,Tryz.ntmps62;go_wp2_with fail
 go_loopg [8] n (fun kx s8 wr=>∃i:Nat,s8=.int .i64 i/\i<=n/\n - i<=kx/\Hid (Below W.heap.size W wr/\∀q∈qs.take i,f q=false))
 case atStart=>exact⟨0,rfl,Nat.zero_le _,by omega,(⟨Below.refl _ _,fun q p=>by cases p⟩:Below W.heap.size W W/\∀q∈qs.take 0,f q=false)⟩
 case round =>
  obtain⟨i,rfl,T,S,J⟩:=hrel
  by_cases t:i<n
  ·have u:(i:Int)<(n:Int):=by omega
   obtain⟨q,p⟩:∃q,qs[i]?=some q:=⟨qs[i]'(by rw[A.out];exact t),List.getElem?_eq_getElem _⟩
   obtain⟨L,M,N,O⟩:=qfq (qh C.out (fun j P=>J.out.1.block j (qw C.out (zi P)).2.1)) p;have y:Hid (Calls Tryz.prog F (#[.agg #[.int .i64 q.1.l,.slice q.2.1 q.1.r.length q.2.2,.int .i64 q.1.lv,.int .i64 q.1.a]]++k) wr fun e s=>e=.returned (.bool (f q))/\Below wr.heap.size wr s):=I.out wr J.out.1 q (List.mem_of_getElem? p);have D:Hid (qs[i]?=some q):=p;clear p;go_wp2_with fail;refine y.out.mono ?_;rintro e V ⟨rfl,v⟩;clear L M N O y
   cases x:f q
   ·have o:Hid (Below W.heap.size W V/\∀q∈qs.take (i+1),f q=false):=by
     refine⟨qd J.out.1 v,fun z m=>?_⟩;rw[List.take_add_one,List.mem_append]at m
     rcases m with m | m
     ·exact J.out.2 z m
     ·rw[D.out]at m;rw[Option.toList_some,List.mem_singleton]at m;subst m;exact x
    clear J x v;go_wp2_with fail;go_roundg (n - (i+1))
    case measure=>omega
    case rel=>exact⟨i+1,by simp,by omega,Nat.le_refl _,o⟩
   ·have o:Hid (Below W.heap.size W V/\(∀q∈qs.take i,f q=false)/\∃q,qs[i]?=some q/\f q=true):=⟨qd J.out.1 v,J.out.2,q,D.out,x⟩
    clear J x v;go_wp2_with fail;go_ret;exact⟨o.out.1,.inr ⟨i,rfl,t,o.out.2⟩⟩
  ·have u:¬(i:Int)<(n:Int):=by omega
   have o:Hid (Below W.heap.size W wr/\∀q∈qs,f q=false):=by
    have:i=n:=by omega
    subst this;have E:=J.out.2;rw[List.take_of_length_le (by rw[A.out];exact Nat.le_refl _)]at E
    exact⟨J.out.1,E⟩
   clear J;go_wp2_with fail;go_ret;exact⟨o.out.1,.inl ⟨rfl,fun a b d h=>o.out.2 (a,b,d) h⟩⟩
structure DL (W V:World) (B g n c:Nat) (pr:QR->Bool) (qs:List QR) (i j:Nat):Prop where
 kep:Kept (fun k=>k=g) W V
 own:∃cs:List QR,cs.length=n/\V.ownsRow B 47 4 (.slice (some ⟨g,0,none⟩) n c) n (srC cs)/\cs.take i=(qs.take j).filter (fun q=>!pr q)/\cs.drop j=qs.drop j
 lt:i<j
theorem qle{α:Type}{l:List α}{i:Nat}{x:α}(h:i<l.length):(l.set i x).take (i+1)=l.take i++[x]:=by
 rw[List.take_add_one,List.getElem?_set,if_pos rfl,if_pos h,List.take_set_of_le (Nat.le_refl i)];rfl
theorem qbh{qs:List QR}{j:Nat}{q:QR}(h:qs[j]?=some q):qs.take (j+1)=qs.take j++[q]:=by rw[List.take_add_one,h];rfl
theorem qh4(F:FuncId)(o:Array Value)(hE:∀(args:Array Value) (W:World),(callFunc F args).run Tryz.prog W=.ok (.enter F args) W)(d:QR->Bool)(W:World)(qs:List QR)(B g n c:Nat)(h:W.ownsRow B 47 4 (.slice (some ⟨g,0,none⟩) n c) n (srC qs))(hn:n<=1000)(hP:∀V,Kept (fun k=>k=g) W V->∀q∈qs,Calls Tryz.prog F (#[.agg #[.int .i64 q.1.l,.slice q.2.1 q.1.r.length q.2.2,.int .i64 q.1.lv,.int .i64 q.1.a]]++o) V fun e O=>e=.returned (.bool (d q))/\Below V.heap.size V O):
  Calls Tryz.prog 39 #[.slice (some ⟨g,0,none⟩) n c,.func (.func F) #[] o] W fun e D=>∃m,e=.returned (.slice (some ⟨g,0,none⟩) m c)/\m<=n/\D.ownsRow B 47 4 (.slice (some ⟨g,0,none⟩) m c) m (srC (qs.filter (fun q=>!d q)))/\Kept (fun k=>k=g) W D:=by
 have HP:Hid (∀V,Kept (fun k=>k=g) W V->∀q∈qs,Calls Tryz.prog F (#[.agg #[.int .i64 q.1.l,.slice q.2.1 q.1.r.length q.2.2,.int .i64 q.1.lv,.int .i64 q.1.a]]++o) V fun e O=>e=.returned (.bool (d q))/\Below V.heap.size V O):=hP;have HO:Hid (W.ownsRow B 47 4 (.slice (some ⟨g,0,none⟩) n c) n (srC qs)):=h;have hl:=h.1;rw[jq]at hl
 have HL:Hid (qs.length=n):=by show qs.length=n;omega
 have hc:=z8 h;have HX:Hid (Calls Tryz.prog 62 #[.slice (some ⟨g,0,none⟩) n c,.func (.func F) #[] o] W fun e D=>Below W.heap.size W D/\((e=.returned (.int .i64 (-1))/\∀q∈qs,d q=false)\/∃i:Nat,e=.returned (.int .i64 (i:Int))/\i<n/\(∀q∈qs.take i,d q=false)/\∃q,qs[i]?=some q/\d q=true)):=qld F o hE d W qs B g n c h hn (fun V hV=>hP V (zk hV));clear h hP hl;go_enter Tryz.func39,Tryz.ntmps39;go_wp2_with fail;refine HX.out.mono ?_;rintro e V ⟨s,⟨rfl,R⟩ | ⟨i,rfl,hi,z,q,t,X⟩⟩
 ·have A:Hid (V.ownsRow B 47 4 (.slice (some ⟨g,0,none⟩) n c) n (srC (qs.filter (fun q=>!d q)))/\Kept (fun k=>k=g) W V):=by
   have e:qs.filter (fun q=>!d q)=qs:=List.filter_eq_self.2 (fun q t=>by rw[R q t];rfl)
   rw[e];exact⟨qh HO.out (fun j I=>s.block j (qw HO.out (zi I)).2.1),zk s⟩
  clear R s;go_wp2_with fail;go_ret;exact⟨n,rfl,Nat.le_refl _,A.out⟩
 ·have HD:Hid (DL W V B g n c d qs i (i+1)):=by
   have hf:(qs.take i).filter (fun q=>!d q)=qs.take i:=List.filter_eq_self.2 (fun q t=>by rw[z q t];rfl)
   refine⟨zk s,⟨qs,HL.out,qh HO.out (fun j I=>s.block j (qw HO.out (zi I)).2.1),?_,rfl⟩,Nat.lt_succ_self i⟩;rw[qbh t,List.filter_append,hf];simp[X]
  have a0:¬(i:Int)=-1:=by omega
  clear z t X s HX
  go_upto_block 0 with fail
  go_cut [5] (fun s5 wd=>∃i:Nat,s5=.int .i64 i/\i<n/\Hid (DL W wd B g n c d qs i n))
  case first =>
   go_wp2_with fail
   go_loopg [5,6] n (fun kx s5 s6 wr=>∃i j:Nat,s5=.int .i64 i/\s6=.int .i64 j/\i<j/\j<=n/\n - j<=kx/\Hid (DL W wr B g n c d qs i j))
   case atStart=>exact⟨i,i+1,rfl,by simp,by omega,by omega,by omega,HD⟩
   case round =>
    clear HD a0;obtain⟨i,j,rfl,rfl,a6,I,hg,J⟩:=hrel
    by_cases a3:j<n
    ·have Q:(j:Int)<(n:Int):=by omega
     have a1:(i:Int)<(n:Int):=by omega
     obtain⟨cs,x,G,Y,hd⟩:=J.out.own
     obtain⟨q,t⟩:∃q,qs[j]?=some q:=⟨qs[j]'(by rw[HL.out];exact a3),List.getElem?_eq_getElem _⟩
     have T:cs[j]?=some q:=by
      have h1:(cs.drop j)[0]?=(qs.drop j)[0]?:=by rw[hd]
      rw[List.getElem?_drop,List.getElem?_drop]at h1
      simpa [t] using h1
     obtain⟨d0,d1,d2,d3⟩:=qfq G T;have hv:Below wr.heap.size wr (wr.alloc (.cells #[.int .i64 q.1.l,.slice q.2.1 q.1.r.length q.2.2,.int .i64 q.1.lv,.int .i64 q.1.a] 47)):=qb _ _;have E:Kept (fun k=>k=g) W (wr.alloc (.cells #[.int .i64 q.1.l,.slice q.2.1 q.1.r.length q.2.2,.int .i64 q.1.lv,.int .i64 q.1.a] 47)):=J.out.kep.alloc _;have HC:Hid (Calls Tryz.prog F (#[.agg #[.int .i64 q.1.l,.slice q.2.1 q.1.r.length q.2.2,.int .i64 q.1.lv,.int .i64 q.1.a]]++o) (wr.alloc (.cells #[.int .i64 q.1.l,.slice q.2.1 q.1.r.length q.2.2,.int .i64 q.1.lv,.int .i64 q.1.a] 47)) fun e O=>e=.returned (.bool (d q))/\Below (wr.alloc (.cells #[.int .i64 q.1.l,.slice q.2.1 q.1.r.length q.2.2,.int .i64 q.1.lv,.int .i64 q.1.a] 47)).heap.size (wr.alloc (.cells #[.int .i64 q.1.l,.slice q.2.1 q.1.r.length q.2.2,.int .i64 q.1.lv,.int .i64 q.1.a] 47)) O):=HP.out _ E q (List.mem_of_getElem? t)
     have v:Hid ((wr.alloc (.cells #[.int .i64 q.1.l,.slice q.2.1 q.1.r.length q.2.2,.int .i64 q.1.lv,.int .i64 q.1.a] 47)).heap[wr.heap.size]?=some (.cells #[.int .i64 q.1.l,.slice q.2.1 q.1.r.length q.2.2,.int .i64 q.1.lv,.int .i64 q.1.a] 47 (0,0))/\wr.heap.size<(wr.alloc (.cells #[.int .i64 q.1.l,.slice q.2.1 q.1.r.length q.2.2,.int .i64 q.1.lv,.int .i64 q.1.a] 47)).heap.size/\g<wr.heap.size):=⟨heap_alloc_new _ _,by rw[qt];omega,(qw G (b:=g) rfl).2.1⟩
     have f:Hid (cs.length=n/\(wr.alloc (.cells #[.int .i64 q.1.l,.slice q.2.1 q.1.r.length q.2.2,.int .i64 q.1.lv,.int .i64 q.1.a] 47)).ownsRow B 47 4 (.slice (some ⟨g,0,none⟩) n c) n (srC cs)/\cs.take i=(qs.take j).filter (fun q=>!d q)/\cs.drop j=qs.drop j/\qs[j]?=some q/\Kept (fun k=>k=g) W (wr.alloc (.cells #[.int .i64 q.1.l,.slice q.2.1 q.1.r.length q.2.2,.int .i64 q.1.lv,.int .i64 q.1.a] 47))):=⟨x,G.alloc _,Y,hd,t,E⟩
     obtain⟨⟨M,N,p,Z⟩,K,L⟩:=q;simp only at d0 d1 d2 d3;clear J x G Y hd t T hv E
     go_upto_region 8 with fail
     generalize wr.alloc _=U at HC v f ⊢
     obtain⟨u,HB⟩:∃u,Hid (u=wr.heap.size):=⟨_,rfl⟩
     rw[<-HB.out]at v ⊢
     obtain⟨e0,e1,e2,e3⟩:U.cell? ⟨u,0,none⟩=some (.int .i64 M)/\U.cell? ⟨u,1,none⟩=some (.slice K N.length L)/\U.cell? ⟨u,2,none⟩=some (.int .i64 p)/\U.cell? ⟨u,3,none⟩=some (.int .i64 Z):=⟨by rw[qe v.out.1];rfl,by rw[qe v.out.1];rfl,by rw[qe v.out.1];rfl,by rw[qe v.out.1];rfl⟩
     clear d0 d1 d2 d3;go_wp2_with fail;refine HC.out.mono ?_;rintro e y ⟨rfl,s⟩;clear e0 e1 e2 e3 HC
     obtain⟨e0,e1,e2,e3⟩:y.cell? ⟨u,0,none⟩=some (.int .i64 M)/\y.cell? ⟨u,1,none⟩=some (.slice K N.length L)/\y.cell? ⟨u,2,none⟩=some (.int .i64 p)/\y.cell? ⟨u,3,none⟩=some (.int .i64 Z):=by
      have h7:=qf s v.out.1;exact⟨by rw[qe h7];rfl,by rw[qe h7];rfl,by rw[qe h7];rfl,by rw[qe h7];rfl⟩
     have C:Hid (y.ownsRow B 47 4 (.slice (some ⟨g,0,none⟩) n c) n (srC cs)/\Kept (fun k=>k=g) W y):=⟨qh f.out.2.1 (fun j I=>s.block j (qw f.out.2.1 (zi I)).2.1),f.out.2.2.2.2.2.trans (zk (S:=fun k=>k=g) s) (fun _ _ e=>e)⟩
     clear s
     cases hp:d (⟨M,N,p,Z⟩,K,L)
     ·have A:Hid (DL W ((((y.setCell ⟨g,i * 4,none⟩ (.int .i64 M)).setCell ⟨g,i * 4+1,none⟩ (.slice K N.length L)).setCell ⟨g,i * 4+2,none⟩ (.int .i64 p)).setCell ⟨g,i * 4+3,none⟩ (.int .i64 Z)) B g n c d qs (i+1) (j+1)):=by
       refine⟨C.out.2.trans qof (fun _ _ e=>e),⟨_,?_,qpz C.out.1 (by omega) (⟨M,N,p,Z⟩,K,L),?_,?_⟩,by omega⟩
       ·rw[List.length_set];exact f.out.1
       ·rw[qle (by rw[f.out.1];omega),f.out.2.2.1,qbh f.out.2.2.2.2.1,List.filter_append]
        simp[hp]
       ·rw[List.drop_set_of_lt (by omega),<-List.drop_drop,f.out.2.2.2.1,List.drop_drop]
      obtain⟨u0,u1,u2,u3,k0,k1,k2,k3,f0,f1,f2,f3⟩:=qm4 C.out.1 (by omega:i<n) (.int .i64 M) (.slice K N.length L) (.int .i64 p);clear C f v hp;go_wp2_with fail;go_roundg (n - (j+1))
      case measure=>omega
      case rel=>exact⟨i+1,j+1,by simp,by simp,by omega,by omega,Nat.le_refl _,A⟩
     ·have A:Hid (DL W y B g n c d qs i (j+1)):=by
       refine⟨C.out.2,⟨cs,f.out.1,C.out.1,?_,?_⟩,by omega⟩
       ·rw[qbh f.out.2.2.2.2.1,List.filter_append,<-f.out.2.2.1];simp[hp]
       ·rw[<-List.drop_drop,f.out.2.2.2.1,List.drop_drop]
      clear C f v hp;go_wp2_with fail;go_roundg (n - (j+1))
      case measure=>omega
      case rel=>exact⟨i,j+1,rfl,by simp,by omega,by omega,Nat.le_refl _,A⟩
    ·have a2:j=n:=by omega
     subst a2
     have Q:¬(j:Int)<(j:Int):=by omega
     go_wp2_with fail;go_meet;exact⟨i,rfl,by omega,J⟩
  case rest =>
   obtain⟨w8,a7⟩:∃w8,w8=wc:=⟨_,rfl⟩
   subst wc;obtain⟨i,rfl,hi,J⟩:=hcut;obtain⟨cs,x,G,Y,-⟩:=J.out.own;obtain⟨D,a4,H,P⟩:=qog G hi
   have A:Hid (D.ownsRow B 47 4 (.slice (some ⟨g,0,none⟩) i c) i (srC (qs.filter (fun q=>!d q)))/\Kept (fun k=>k=g) W D):=by
    rw[Y,List.take_of_length_le (by rw[HL.out];exact Nat.le_refl _)]at H
    exact⟨H,J.out.kep.trans P (fun _ _ e=>e)⟩
   have a1:(i:Int)<=(n:Int):=by omega
   have a5:i<=c:=by omega
   clear J x G Y H P HD;go_wp2_with fail;go_ret;exact⟨i,rfl,by omega,A.out⟩
theorem qbp(W:World)(c n b:Nat)(a:Option Addr)(c1:W.cell? ⟨c,1,none⟩=some (.slice a n b))(x:Int):
  Calls Tryz.prog 51 #[.pointer (some ⟨c,0,none⟩),.int .i64 x] W fun e g=>e=.returned (.bool (decide (0<=x/\x<(n:Int))))/\g=W:=by
 by_cases f:0<=x
 ·by_cases d:x<(n:Int)
  ·go_enter Tryz.func51,Tryz.ntmps51;go_wp2_with fail;go_ret;exact⟨by simp[f,d],rfl⟩
  ·go_enter Tryz.func51,Tryz.ntmps51;go_wp2_with fail;go_ret;exact⟨by simp[d],rfl⟩
 ·go_enter Tryz.func51,Tryz.ntmps51;go_wp2_with fail;go_ret;exact⟨by simp;omega,rfl⟩
theorem jt(W:World)(c d n b:Nat)(a:Option Addr)(c0:W.cell? ⟨c,0,none⟩=some (.int .i64 (d:Int)))(c1:W.cell? ⟨c,1,none⟩=some (.slice a n b))(x:Int):
  Calls Tryz.prog 46 #[.pointer (some ⟨c,0,none⟩),.int .i64 x] W fun e g=>e=.returned (.bool (decide ((d:Int)<x/\x<(n:Int))))/\g=W:=by
 by_cases f:(d:Int)<x
 ·go_enter Tryz.func46,Tryz.ntmps46;go_wp2_with fail;refine(qbp W c n b a c1 x).mono ?_;rintro e w1 ⟨rfl,rfl⟩;go_wp2_with fail;go_ret;exact⟨by simp[f];omega,rfl⟩
 ·go_enter Tryz.func46,Tryz.ntmps46;go_wp2_with fail;go_ret;exact⟨by simp;omega,rfl⟩
theorem qee(W:World)(c d n b:Nat)(a:Option Addr)(c0:W.cell? ⟨c,0,none⟩=some (.int .i64 (d:Int)))(c1:W.cell? ⟨c,1,none⟩=some (.slice a n b))(x:Int):
  Calls Tryz.prog 49 #[.pointer (some ⟨c,0,none⟩),.int .i64 x] W fun e g=>e=.returned (.bool (decide (x≠(d:Int)/\0<=x/\x<(n:Int))))/\g=W:=by
 by_cases f:x=(d:Int)
 ·subst f;go_enter Tryz.func49,Tryz.ntmps49;go_wp2_with fail;go_ret;exact⟨by simp,rfl⟩
 ·have h:(x == (d:Int))=false:=by simpa using f
  go_enter Tryz.func49,Tryz.ntmps49;go_wp2_with fail;refine(qbp W c n b a c1 x).mono ?_;rintro e w1 ⟨rfl,rfl⟩;go_wp2_with fail;go_ret;exact⟨by simp[f],rfl⟩
theorem yw(W:World)(c n b x:Nat)(a:Option Addr)(c1:W.cell? ⟨c,1,none⟩=some (.slice a n b))(f:n<=1000)(g:x<n):
  Calls Tryz.prog 48 #[.pointer (some ⟨c,0,none⟩),.int .i64 (x:Int)] W fun e d=>e=.returned (.int .i64 ((n+x:Nat):Int))/\d=W:=by
 go_enter Tryz.func48,Tryz.ntmps48;go_wp2_with fail;go_ret;exact⟨by simp,rfl⟩
theorem qc0(W:World)(c d n a x:Nat)(b:Bool)(c1:W.cell? ⟨c,1,none⟩=some (.slice (some ⟨d,0,none⟩) n a))(f:x<n)(j:W.cell? ⟨d,x,none⟩=some (.bool b)):
  Calls Tryz.prog 23 #[.pointer (some ⟨c,0,none⟩),.int .i64 (x:Int)] W fun e i=>e=.returned (.bool b)/\i=W:=by
 have g:(x:Int)<(n:Int):=by omega
 have h:(0:Int)<=(x:Int):=by omega
 go_enter Tryz.func23,Tryz.ntmps23;go_wp2_with fail;refine(qbp W c n a _ c1 (x:Int)).mono ?_;rintro e w1 ⟨rfl,rfl⟩
 have hd:decide (0<=(x:Int)/\(x:Int)<(n:Int))=true:=by simp[f]
 rw[hd];go_wp2_with fail;go_ret;exact⟨rfl,rfl⟩
structure FP where
 eb:Nat
 ob:Nat
 oc:Nat
 vs:List (Option Addr × Nat)
structure FM (W:World) (B fb:Nat) (p:FP) (n tk:Nat) (E:List Bool) (WL:List (List Nat)):Prop where
 box:W.heap[fb]?=some (.cells #[.int .i64 (tk:Int),.slice (some ⟨p.eb,0,none⟩) n n,.slice (some ⟨p.ob,0,none⟩) WL.length p.oc] 78 (0,0))
 new:B<=fb
 el:E.length=n
 emp:W.ownsRow B 4 1 (.slice (some ⟨p.eb,0,none⟩) n n) n (booC E)
 len:p.vs.length=WL.length
 bod:W.ownsRow B 26 1 (.slice (some ⟨p.ob,0,none⟩) WL.length p.oc) WL.length (grC p.vs WL)
 row:∀(x:Nat) (q:Option Addr × Nat) (l:List Nat),p.vs[x]?=some q->WL[x]?=some l->W.ownsRow B 3 1 (.slice q.1 l.length q.2) l.length (natC l)
 dis:∀(x y:Nat) (q r:Option Addr × Nat) (k:Nat),x≠y->p.vs[x]?=some q->p.vs[y]?=some r->blk q.1=some k->blk r.1≠some k
def FK (fb:Nat) (p:FP) (k:Nat):Prop:=k=fb\/k=p.eb\/k=p.ob\/GR p.vs k
theorem FM.lt{W:World}{B c n g:Nat}{p:FP}{E:List Bool}{a:List (List Nat)}(h:FM W B c p n g E a){k:Nat}(d:FK c p k):B<=k/\k<W.heap.size/\(Loc W k 78\/Loc W k 4\/Loc W k 26\/Loc W k 3):=by
 rcases d with rfl | rfl | rfl | ⟨x,q,hq,hb⟩
 ·exact⟨h.new,(Array.getElem?_eq_some_iff.1 h.box).1,.inl ⟨_,h.box⟩⟩
 ·have:=qw h.emp (b:=p.eb) rfl;exact⟨this.1,this.2.1,.inr (.inl this.2.2)⟩
 ·have:=qw h.bod (b:=p.ob) rfl;exact⟨this.1,this.2.1,.inr (.inr (.inl this.2.2))⟩
 ·have f:x<a.length:=by rw[<-h.len];exact(List.getElem?_eq_some_iff.1 hq).1
  have:=qw (h.row x q a[x] hq (List.getElem?_eq_getElem f)) hb;exact⟨this.1,this.2.1,.inr (.inr (.inr this.2.2))⟩
theorem FM.not{W:World}{B b n l:Nat}{p:FP}{E:List Bool}{c:List (List Nat)}(h:FM W B b p n l E c){k T:Nat}(a:Loc W k T)(d:T≠78)(f:T≠4)(g:T≠26)(i:T≠3):¬FK b p k:=by
 intro j
 rcases (h.lt j).2.2 with e | e | e | e
 ·exact qr a e d rfl
 ·exact qr a e f rfl
 ·exact qr a e g rfl
 ·exact qr a e i rfl
theorem FM.keep{W d:World}{B b n j:Nat}{p:FP}{E:List Bool}{f:List (List Nat)}(h:FM W B b p n j E f)(c:∀k,FK b p k->d.heap[k]?=W.heap[k]?):FM d B b p n j E f:=by
 refine⟨by rw[c b (.inl rfl)];exact h.box,h.new,h.el,?_,h.len,?_,fun x q l g m=>?_,h.dis⟩
 ·exact qh h.emp (fun i a=>by cases a;exact c _ (.inr (.inl rfl)))
 ·exact qh h.bod (fun i a=>by cases a;exact c _ (.inr (.inr (.inl rfl))))
 ·exact qh (h.row x q l g m) (fun i a=>c i (.inr (.inr (.inr ⟨x,q,g,zi a⟩))))
theorem FM.below{W a:World}{B c n d:Nat}{p:FP}{E:List Bool}{b:List (List Nat)}(h:FM W B c p n d E b)(f:Below W.heap.size W a):FM a B c p n d E b :=
 h.keep (fun k g=>f.block k (h.lt g).2.1)
theorem FM.kept{W b:World}{F:Nat->Prop}{B a n f:Nat}{p:FP}{E:List Bool}{c:List (List Nat)}(h:FM W B a p n f E c)(k:Kept F W b)(g:∀j,FK a p j->¬F j):FM b B a p n f E c :=
 h.keep (fun j d=>k.block j (h.lt d).2.1 (g j d))
def FV (W:World) (fb:Nat) (p:FP) (W':World) (p':FP):Prop:=Kept (FK fb p) W W'/\∀k,FK fb p' k->FK fb p k\/W.heap.size<=k
theorem FV.refl(W:World)(a:Nat)(p:FP):FV W a p W p:=⟨Kept.refl _ _,fun _ h=>.inl h⟩
theorem FV.trans{W b c:World}{a:Nat}{p f g:FP}(h:FV W a p b f)(k:FV b a f c g):FV W a p c g:=by
 refine⟨h.1.trans k.1 (fun j d e=>?_),fun j d=>?_⟩
 ·rcases h.2 j e with h1 | h1
  ·exact h1
  ·omega
 ·rcases k.2 j d with h1 | h1
  ·exact h.2 j h1
  ·exact .inr (Nat.le_trans h.1.size h1)
theorem FV.below{W a:World}{B b n g:Nat}{p f:FP}{E:List Bool}{c:List (List Nat)}(h:FM W B b p n g E c)(d:B<=W.heap.size)(v:FV W b p a f):Below B W a :=
 v.1.below d (fun k i e=>by have:=(h.lt e).1;omega)
theorem FM.c0{W:World}{B a n b:Nat}{p:FP}{E:List Bool}{c:List (List Nat)}(h:FM W B a p n b E c):W.cell? ⟨a,0,none⟩=some (.int .i64 (b:Int)):=by rw[qe h.box];rfl
theorem FM.c1{W:World}{B a n c:Nat}{p:FP}{E:List Bool}{b:List (List Nat)}(h:FM W B a p n c E b):W.cell? ⟨a,1,none⟩=some (.slice (some ⟨p.eb,0,none⟩) n n):=by rw[qe h.box];rfl
theorem FM.c2{W:World}{B b n c:Nat}{p:FP}{E:List Bool}{a:List (List Nat)}(h:FM W B b p n c E a):W.cell? ⟨b,2,none⟩=some (.slice (some ⟨p.ob,0,none⟩) a.length p.oc):=by rw[qe h.box];rfl
theorem FM.ce{W:World}{B c n f:Nat}{p:FP}{E:List Bool}{b:List (List Nat)}(h:FM W B c p n f E b){x:Nat}(d:x<n):W.cell? ⟨p.eb,x,none⟩=some (.bool (isF E x)):=by
 have a:x<E.length:=by rw[h.el];exact d
 have:=h.emp.cellAt x (by omega);rw[this];unfold booC;rw[List.getElem?_map,vm a];rfl
theorem FM.at{W:World}{B f n i:Nat}{p:FP}{E:List Bool}{a:List (List Nat)}(h:FM W B f p n i E a){x:Nat}{l:List Nat}(b:a[x]?=some l):∃q,p.vs[x]?=some q/\W.cell? ⟨p.ob,x,none⟩=some (.slice q.1 l.length q.2)/\W.frozen? ⟨p.ob,x,none⟩=false:=by
 have d:x<a.length:=(List.getElem?_eq_some_iff.1 b).1;have c:p.vs[x]?=some (p.vs[x]'(by rw[h.len];exact d)):=List.getElem?_eq_getElem _
 refine⟨_,c,?_,h.bod.frozenAt x⟩;rw[h.bod.cellAt x (by omega)];unfold grC
 have g:(p.vs.zip a)[x]?=some (p.vs[x]'(by rw[h.len];exact d),l):=by rw[List.getElem?_zip_eq_some];exact⟨c,b⟩
 rw[List.getElem?_map,g];rfl
theorem FM.lay{W:World}{B A n tk:Nat}{p:FP}{E:List Bool}{f:List (List Nat)}(h:FM W B A p n tk E f)(hB:B<=W.heap.size){x i:Nat}{l:List Nat}{q:Option Addr × Nat}(T:f[x]?=some l)(H:p.vs[x]?=some q)(hn:l.length<100000):
  ∃g c d,(Builtin.append_ #[26,26] 26 #[.slice q.1 l.length q.2,.slice (some ⟨W.heap.size,0,none⟩) 1 1]).run Tryz.prog (W.alloc (.cells #[.int .i64 (i:Int)] 3))=.ok (.slice (some ⟨g,0,none⟩) (l.length+1) c) d /\
   d.cell? ⟨A,2,none⟩=some (.slice (some ⟨p.ob,0,none⟩) f.length p.oc)/\d.cell? ⟨p.ob,x,none⟩=some (.slice q.1 l.length q.2)/\d.frozen? ⟨p.ob,x,none⟩=false /\
   FM (d.setCell ⟨p.ob,x,none⟩ (.slice (some ⟨g,0,none⟩) (l.length+1) c)) B A ⟨p.eb,p.ob,p.oc,p.vs.set x (some ⟨g,0,none⟩,c)⟩ n tk E (f.set x (l++[i]))/\FV W A p (d.setCell ⟨p.ob,x,none⟩ (.slice (some ⟨g,0,none⟩) (l.length+1) c)) ⟨p.eb,p.ob,p.oc,p.vs.set x (some ⟨g,0,none⟩,c)⟩:=by
 obtain⟨g,c,d,t,ho,hk,hg⟩:=jc (us:=[.int .i64 (i:Int)]) u29 i3 rfl (by decide) (by decide) rfl (fun u hu=>by rw[List.mem_singleton]at hu;subst hu;rfl) (h.row x q l H T) hB hn
 have hx:x<f.length:=(List.getElem?_eq_some_iff.1 T).1
 have v:x<p.vs.length:=by rw[h.len];exact hx
 have hG:∀k,blk q.1=some k->GR p.vs k:=fun k e=>⟨x,q,H,e⟩
 have J:Kept (fun k=>blk q.1=some k) W d:=((Kept.refl _ W).alloc _).trans hk (fun k _ e=>zi e);have M:blk q.1=some g\/W.heap.size<=g:=hg.imp zi id;have R:Loc W p.ob 26:=(qw h.bod (b:=p.ob) rfl).2.2
 have lq:∀k,blk q.1=some k->Loc W k 3:=fun k e=>(qw (h.row x q l H T) e).2.2
 have Q:¬blk q.1=some p.ob:=fun e=>qr (lq _ e) R (by decide) rfl
 have X:¬blk q.1=some A:=fun e=>qr (lq _ e) ⟨_,h.box⟩ (by decide) rfl
 have Y:¬blk q.1=some p.eb:=fun e=>qr (lq _ e) (qw h.emp (b:=p.eb) rfl).2.2 (by decide) rfl
 have U:d.heap[A]?=some (.cells #[.int .i64 (tk:Int),.slice (some ⟨p.eb,0,none⟩) n n,.slice (some ⟨p.ob,0,none⟩) f.length p.oc] 78 (0,0)):=(J.block A (h.lt (.inl rfl)).2.1 X).trans h.box;have K:d.ownsRow B 26 1 (.slice (some ⟨p.ob,0,none⟩) f.length p.oc) f.length (grC p.vs f):=qh h.bod (fun j o=>by cases o;exact J.block _ (h.lt (.inr (.inr (.inl rfl)))).2.1 Q)
 have ge:d.ownsRow B 4 1 (.slice (some ⟨p.eb,0,none⟩) n n) n (booC E):=qh h.emp (fun j o=>by cases o;exact J.block _ (h.lt (.inr (.inl rfl))).2.1 Y)
 have V:g≠p.ob:=fun e=>qr (qx ho rfl) (qx K rfl) (by decide) e
 obtain⟨q',P,c1,-⟩:=h.at T;rw[H]at P
 cases P
 have c2:d.cell? ⟨p.ob,x,none⟩=some (.slice q.1 l.length q.2):=by
  have:d.heap[p.ob]?=W.heap[p.ob]?:=J.block _ (h.lt (.inr (.inr (.inl rfl)))).2.1 Q;unfold World.cell? at c1 ⊢;rw[this];exact c1
 have a1:A≠p.ob:=qr ⟨_,U⟩ (qx K rfl) (by decide);have a0:p.eb≠p.ob:=qr (qx ge rfl) (qx K rfl) (by decide);refine⟨g,c,d,t,by rw[qe U];rfl,c2,K.frozenAt x,⟨?_,h.new,h.el,?_,?_,?_,?_,?_⟩,?_,?_⟩
 ·rw[Below.heap_setCell _ _ _ _ a1,List.length_set];exact U
 ·exact qh ge (fun j o=>by cases o;exact Below.heap_setCell _ _ _ _ a0)
 ·rw[List.length_set,List.length_set];exact h.len
 ·have s1:=(K.stored x (.slice (some ⟨g,0,none⟩) (l.length+1) c)).1;rw[List.length_set]
  have e:grC (p.vs.set x (some ⟨g,0,none⟩,c)) (f.set x (l++[i]))=(grC p.vs f).set x (.slice (some ⟨g,0,none⟩) (l.length+1) c):=by
   unfold grC;rw[qde,List.map_set];simp
  rw[e];exact s1
 ·intro y r m a O;rw[List.getElem?_set]at a O
  by_cases I:x=y
  ·subst I;rw[if_pos rfl,if_pos v]at a;rw[if_pos rfl,if_pos hx]at O
   cases a
   cases O
   rw[jf,List.length_append];exact qh ho (fun j o=>by cases o;exact Below.heap_setCell _ _ _ _ V)
  ·rw[if_neg I]at a O;have C:=h.row y r m a O;refine qh C (fun j o=>?_);have N:=zi o;rw[Below.heap_setCell _ _ _ _ (qr (qx C o) R (by decide)),J.block j (qw C N).2.1 (fun e=>h.dis x y q r j I H a e N)]
 ·intro y z r s k D a t G;rw[List.getElem?_set]at a t
  have S:∀(u:Nat) (s:Option Addr × Nat),p.vs[u]?=some s->x≠u->blk s.1=some g->False:=by
   intro u s hs Z L
   rcases M with F | F
   ·exact h.dis x u q s g Z H hs F L
   ·have:=(h.lt (.inr (.inr (.inr ⟨u,s,hs,L⟩)))).2.1;omega
  by_cases F:x=y
  ·subst F;rw[if_pos rfl,if_pos v]at a;rw[if_neg D]at t
   cases a
   cases G
   exact fun e=>S z s t D e
  ·rw[if_neg F]at a
   by_cases h2:x=z
   ·subst h2;rw[if_pos rfl,if_pos v]at t
    cases t
    intro e
    cases e
    exact S y r a F G
   ·rw[if_neg h2]at t;exact h.dis y z r s k D a t G
 ·exact Kept.setCell (J.weaken (fun k e=>.inr (.inr (.inr (hG k e))))) _ _ (fun _=>.inr (.inr (.inl rfl)))
 ·rintro k (rfl | rfl | rfl | ⟨y,r,a,G⟩)
  ·exact .inl (.inl rfl)
  ·exact .inl (.inr (.inl rfl))
  ·exact .inl (.inr (.inr (.inl rfl)))
  ·rw[List.getElem?_set]at a
   by_cases I:x=y
   ·subst I;rw[if_pos rfl,if_pos v]at a
    cases a
    cases G
    exact M.imp (fun e=>.inr (.inr (.inr (hG _ e)))) id
   ·rw[if_neg I]at a;exact .inl (.inr (.inr (.inr ⟨y,r,a,G⟩)))
theorem FM.fork{W:World}{B d n tk:Nat}{p:FP}{E:List Bool}{f:List (List Nat)}(h:FM W B d p n tk E f)(hB:B<=W.heap.size)(a b:Nat)(hn:f.length<100000):
  ∃g c i,(Builtin.append_ #[38,38] 38 #[.slice (some ⟨p.ob,0,none⟩) f.length p.oc,.slice (some ⟨W.heap.size+1,0,none⟩) 1 1]).run Tryz.prog ((W.alloc (.cells #[.int .i64 (a:Int),.int .i64 (b:Int)] 3)).alloc (.cells #[.slice (some ⟨W.heap.size,0,none⟩) 2 2] 26))=.ok (.slice (some ⟨g,0,none⟩) (f.length+1) c) i /\
   i.cell? ⟨d,2,none⟩=some (.slice (some ⟨p.ob,0,none⟩) f.length p.oc)/\i.frozen? ⟨d,2,none⟩=false /\
   FM (i.setCell ⟨d,2,none⟩ (.slice (some ⟨g,0,none⟩) (f.length+1) c)) B d ⟨p.eb,g,c,p.vs++[(some ⟨W.heap.size,0,none⟩,2)]⟩ n tk E (f++[[a,b]])/\FV W d p (i.setCell ⟨d,2,none⟩ (.slice (some ⟨g,0,none⟩) (f.length+1) c)) ⟨p.eb,g,c,p.vs++[(some ⟨W.heap.size,0,none⟩,2)]⟩:=by
 have Q:Below W.heap.size W (W.alloc (.cells #[.int .i64 (a:Int),.int .i64 (b:Int)] 3)):=qb _ _;have h1:=h.below Q;have t:(W.alloc (.cells #[.int .i64 (a:Int),.int .i64 (b:Int)] 3)).heap.size=W.heap.size+1:=qt _ _;have R:(W.alloc (.cells #[.int .i64 (a:Int),.int .i64 (b:Int)] 3)).heap[W.heap.size]?=some (.cells #[.int .i64 (a:Int),.int .i64 (b:Int)] 3 (0,0)):=heap_alloc_new _ _;obtain⟨g,c,i,K,ho,hk,hg⟩:=jc (us:=[.slice (some ⟨W.heap.size,0,none⟩) 2 2]) u39 i29 rfl (by decide) (by decide) rfl (fun u hu=>by rw[List.mem_singleton]at hu;subst hu;rfl) h1.bod (by rw[t];omega) hn
 rw[t]at K hg;have P:Kept (fun k=>k=p.ob) W i:=((Kept.refl _ W).alloc _).trans (((Kept.refl _ _).alloc _).trans hk (fun k _ e=>(by cases e;rfl))) (fun k _ e=>e)
 have G:g=p.ob\/W.heap.size+1<=g:=hg.imp (fun e=>by cases e;rfl) id
 have A:Loc W p.ob 26:=(qw h.bod (b:=p.ob) rfl).2.2;have N:d≠p.ob:=qr ⟨_,h.box⟩ A (by decide);have Y:p.eb≠p.ob:=qr (qw h.emp (b:=p.eb) rfl).2.2 A (by decide);have Z:p.eb≠d:=qr (qw h.emp (b:=p.eb) rfl).2.2 ⟨_,h.box⟩ (by decide);have O:i.heap[d]?=some (.cells #[.int .i64 (tk:Int),.slice (some ⟨p.eb,0,none⟩) n n,.slice (some ⟨p.ob,0,none⟩) f.length p.oc] 78 (0,0)):=(P.block d (h.lt (.inl rfl)).2.1 N).trans h.box
 have T:i.heap[W.heap.size]?=some (.cells #[.int .i64 (a:Int),.int .i64 (b:Int)] 3 (0,0)):=by
  have k1:Kept (fun k=>k=p.ob) (W.alloc (.cells #[.int .i64 (a:Int),.int .i64 (b:Int)] 3)) i:=((Kept.refl _ _).alloc _).trans hk (fun k _ e=>(by cases e;rfl))
  rw[k1.block _ (by rw[t];omega) (fun e=>by have:=(h.lt (.inr (.inr (.inl e)))).2.1;omega)]
  exact R
 have a0:g≠d:=by
  rcases G with rfl | h2
  ·exact Ne.symm N
  ·have:=(h.lt (.inl (rfl:d=d))).2.1;omega
 refine⟨g,c,i,K,by rw[qe O];rfl,qi O 2,⟨?_,h.new,h.el,?_,?_,?_,?_,?_⟩,?_,?_⟩
 ·rw[setCell_eq_setRow i d 2 _ 78 (0,0) _ O,List.length_append];exact setRow_heap _ _ _ _ 78 _ O
 ·exact qh h.emp (fun j D=>by cases D;rw[Below.heap_setCell _ _ _ _ Z,P.block _ (h.lt (.inr (.inl rfl))).2.1 Y])
 ·rw[List.length_append,List.length_append,h.len];rfl
 ·have e:grC (p.vs++[(some ⟨W.heap.size,0,none⟩,2)]) (f++[[a,b]])=grC p.vs f++[.slice (some ⟨W.heap.size,0,none⟩) 2 2]:=by
   unfold grC;rw[List.zip_append h.len,List.map_append];rfl
  rw[e,List.length_append];exact qh ho (fun j D=>by cases D;exact Below.heap_setCell _ _ _ _ a0)
 ·intro x q l m H
  rcases Nat.lt_or_ge x f.length with hx | hx
  ·rw[List.getElem?_append_left (by rw[h.len];exact hx)]at m
   rw[List.getElem?_append_left hx]at H;have o:=h.row x q l m H;refine qh o (fun j D=>?_);have I:=qx o D;rw[Below.heap_setCell _ _ _ _ (qr I ⟨_,h.box⟩ (by decide)),P.block j (qw o (zi D)).2.1 (qr I A (by decide))]
  ·have L:=(List.getElem?_eq_some_iff.1 H).1;rw[List.length_append]at L;simp only[List.length_singleton]at L
   have U:x=f.length:=by omega
   subst U;rw[List.getElem?_append_right (Nat.le_refl _),Nat.sub_self]at H;rw[<-h.len,List.getElem?_append_right (Nat.le_refl _),Nat.sub_self]at m
   cases m
   cases H
   have S:W.heap.size≠d:=by have:=(h.lt (.inl (rfl:d=d))).2.1;omega
   refine⟨rfl,.inr ⟨W.heap.size,2,#[.int .i64 (a:Int),.int .i64 (b:Int)],rfl,hB,?_,Nat.le_refl 2,by unfold maxLen;omega,rfl,rfl⟩⟩
   rw[Below.heap_setCell _ _ _ _ S];exact T
 ·intro x y q r k V m K C
  have v:∀(z:Nat) (s:Option Addr × Nat),(p.vs++[(some ⟨W.heap.size,0,none⟩,2)])[z]?=some s->(p.vs[z]?=some s/\∀k,blk s.1=some k->k<W.heap.size)\/(z=p.vs.length/\s=(some ⟨W.heap.size,0,none⟩,2)):=by
   intro z s F
   rcases Nat.lt_or_ge z p.vs.length with hz | hz
   ·rw[List.getElem?_append_left hz]at F;exact .inl ⟨F,fun k e=>(h.lt (.inr (.inr (.inr ⟨z,s,F,e⟩)))).2.1⟩
   ·have M:=(List.getElem?_eq_some_iff.1 F).1;rw[List.length_append]at M;simp only[List.length_singleton]at M
    have X:z=p.vs.length:=by omega
    subst X;rw[List.getElem?_append_right (Nat.le_refl _),Nat.sub_self]at F
    cases F
    exact .inr ⟨rfl,rfl⟩
  rcases v x q m with ⟨h2,h3⟩ | ⟨h2,rfl⟩
  ·rcases v y r K with ⟨h4,h5⟩ | ⟨h4,rfl⟩
   ·exact h.dis x y q r k V h2 h4 C
   ·intro e
    cases e
    exact absurd (h3 _ C) (Nat.lt_irrefl _)
  ·rcases v y r K with ⟨h4,h5⟩ | ⟨h4,rfl⟩
   ·cases C
    intro e;exact absurd (h5 _ e) (Nat.lt_irrefl _)
   ·omega
 ·exact Kept.setCell (P.weaken (fun k e=>.inr (.inr (.inl e)))) _ _ (fun _=>.inl rfl)
 ·rintro k (rfl | rfl | rfl | ⟨y,r,m,C⟩)
  ·exact .inl (.inl rfl)
  ·exact .inl (.inr (.inl rfl))
  ·rcases G with rfl | h2
   ·exact .inl (.inr (.inr (.inl rfl)))
   ·exact .inr (by show W.heap.size<=k;omega)
  ·simp only at m
   rcases Nat.lt_or_ge y p.vs.length with hz | hz
   ·rw[List.getElem?_append_left hz]at m;exact .inl (.inr (.inr (.inr ⟨y,r,m,C⟩)))
   ·rw[List.getElem?_append_right hz]at m;have J:=List.mem_of_getElem? m;rw[List.mem_singleton]at J;subst J
    cases C
    exact .inr (Nat.le_refl _)
theorem qdf(W:World)(B k n H:Nat)(p:FP)(E:List Bool)(t:List (List Nat))(h:FM W B k p n H E t)(Q:B<=W.heap.size)(x i:Nat)(l:List Nat)(z:t[x]?=some l)(R:l.length<100000):
  Calls Tryz.prog 47 #[.pointer (some ⟨k,0,none⟩),.int .i64 (x:Int),.int .i64 (i:Int)] W fun e s=>e=.returned (.tuple #[])/\∃y,y.eb=p.eb/\FM s B k y n H E (t.set x (l++[i]))/\FV W k p s y:=by
 have J:=h.below (qk W);obtain⟨q,D,c1,-⟩:=h.at z;obtain⟨g,c,s,r,C,P,X,L,M⟩:=J.lay (i:=i) (by exact Q) z D R;have Y:x<t.length:=(List.getElem?_eq_some_iff.1 z).1;have T:=z8 h.bod;have F:=z8 (h.row x q l D z);have c2:=h.c2;have N:Kept (FK k p) W W.drew:=(Kept.refl _ W).drew
 have I:Hid (∃y,y.eb=p.eb/\FM (s.setCell ⟨p.ob,x,none⟩ (.slice (some ⟨g,0,none⟩) (l.length+1) c)) B k y n H E (t.set x (l++[i]))/\FV W k p (s.setCell ⟨p.ob,x,none⟩ (.slice (some ⟨g,0,none⟩) (l.length+1) c)) y):=⟨⟨p.eb,p.ob,p.oc,p.vs.set x (some ⟨g,0,none⟩,c)⟩,rfl,L,FV.trans (show FV W k p W.drew p from⟨N,fun _ e=>.inl e⟩) M⟩
 have G:k≠p.ob:=qr ⟨_,h.box⟩ (qw h.bod (b:=p.ob) rfl).2.2 (by decide);have s2:(s.setCell ⟨p.ob,x,none⟩ (.slice (some ⟨g,0,none⟩) (l.length+1) c)).cell? ⟨k,2,none⟩=some (.slice (some ⟨p.ob,0,none⟩) t.length p.oc):=qz C G;have m:(Builtin.append_ #[26,26] 26 #[.slice q.1 l.length q.2,.slice (some ⟨W.heap.size,0,none⟩) 1 1]).run Tryz.prog (W.alloc (.cells #[.int .i64 (i:Int)] 3)).drew=.ok (.slice (some ⟨g,0,none⟩) (l.length+1) c) s:=r;obtain⟨Z,qc⟩:=q;simp only at m c1 P F;clear J h L M r D N
 generalize t.length=A at *
 have U:(x:Int)<(A:Int):=by omega
 go_enter Tryz.func47,Tryz.ntmps47
 go_upto_region 0 with fail
 have u:=qo c2 (.cells #[.int .i64 (i:Int)] 3);have O:=qo c1 (.cells #[.int .i64 (i:Int)] 3);refine wp_region_held_drew (S:=fun V=>V.cell? ⟨k,2,none⟩=some (.slice (some ⟨p.ob,0,none⟩) A p.oc)/\True) (by kernel_rfl) ⟨c2,trivial⟩ (fun a=>?_);refine wpAnyH_take (i:=0) (v:=.pointer (some ⟨k,0,none⟩)) rfl (by kernel_rfl) (by kernel_rfl) (by kernel_rfl) (fun _ _ _ h=>h) (Or.inl ⟨by rfl,fun o d=>?_⟩) a ?_
 ·(obtain⟨f,-⟩:=d;go_simp)
 simp only[Act.put];refine wpAnyH_take (i:=1) (v:=.pointer (some ⟨k,0,none⟩)) rfl (by kernel_rfl) (by kernel_rfl) (by kernel_rfl) (fun _ _ _ h=>h) (Or.inl ⟨by rfl,fun o d=>?_⟩) a ?_
 ·(obtain⟨f,-⟩:=d;go_simp)
 simp only[Act.put];refine wpAnyH_take (i:=2) (v:=.pointer (some ⟨k,2,none⟩)) rfl (by kernel_rfl) (by kernel_rfl) (by kernel_rfl) (fun _ _ _ h=>h) (Or.inl ⟨by rfl,fun o d=>?_⟩) a ?_
 ·(obtain⟨f,-⟩:=d;go_simp)
 simp only[Act.put];refine wpAnyH_take (i:=3) (v:=(.slice (some ⟨p.ob,0,none⟩) A p.oc)) rfl (by kernel_rfl) (by kernel_rfl) (by kernel_rfl) (fun _ _ _ h=>h) (Or.inl ⟨by rfl,fun o d=>?_⟩) a ?_
 ·(obtain⟨f,-⟩:=d;go_simp)
 simp only[Act.put];refine wpAnyH_take (i:=4) (v:=.int .i64 (x:Int)) rfl (by kernel_rfl) (by kernel_rfl) (by kernel_rfl) (fun _ _ _ h=>h) (Or.inl ⟨by rfl,fun o d=>?_⟩) a ?_
 ·(obtain⟨f,-⟩:=d;go_simp)
 simp only[Act.put];refine wpAnyH_take (i:=5) (v:=.pointer (some ⟨k,0,none⟩)) rfl (by kernel_rfl) (by kernel_rfl) (by kernel_rfl) (fun _ _ _ h=>h) (Or.inl ⟨by rfl,fun o d=>?_⟩) a ?_
 ·(obtain⟨f,-⟩:=d;go_simp)
 simp only[Act.put];refine wpAnyH_take (i:=6) (v:=.pointer (some ⟨k,0,none⟩)) rfl (by kernel_rfl) (by kernel_rfl) (by kernel_rfl) (fun _ _ _ h=>h) (Or.inl ⟨by rfl,fun o d=>?_⟩) a ?_
 ·(obtain⟨f,-⟩:=d;go_simp)
 simp only[Act.put];refine wpAnyH_take (i:=7) (v:=.pointer (some ⟨k,2,none⟩)) rfl (by kernel_rfl) (by kernel_rfl) (by kernel_rfl) (fun _ _ _ h=>h) (Or.inl ⟨by rfl,fun o d=>?_⟩) a ?_
 ·(obtain⟨f,-⟩:=d;go_simp)
 simp only[Act.put];refine wpAnyH_take (i:=8) (v:=(.slice (some ⟨p.ob,0,none⟩) A p.oc)) rfl (by kernel_rfl) (by kernel_rfl) (by kernel_rfl) (fun _ _ _ h=>h) (Or.inl ⟨by rfl,fun o d=>?_⟩) a ?_
 ·(obtain⟨f,-⟩:=d;go_simp)
 simp only[Act.put];refine wpAnyH_take (i:=9) (v:=.int .i64 (x:Int)) rfl (by kernel_rfl) (by kernel_rfl) (by kernel_rfl) (fun _ _ _ h=>h) (Or.inl ⟨by rfl,fun o d=>?_⟩) a ?_
 ·(obtain⟨f,-⟩:=d;go_simp)
 simp only[Act.put];refine wpAnyH_take (i:=10) (v:=.pointer (some ⟨p.ob,x,none⟩)) rfl (by kernel_rfl) (by kernel_rfl) (by kernel_rfl) (fun _ _ _ h=>h) (Or.inl ⟨by rfl,fun o d=>?_⟩) a ?_
 ·(obtain⟨f,-⟩:=d;go_simp)
 simp only[Act.put];refine wpAnyH_take (i:=12) (v:=.int .i64 (i:Int)) rfl (by kernel_rfl) (by kernel_rfl) (by kernel_rfl) (fun _ _ _ h=>h) (Or.inl ⟨by rfl,fun o d=>?_⟩) a ?_
 ·(obtain⟨f,-⟩:=d;go_simp)
 simp only[Act.put];refine wpAnyH_ready (rs:=[11,13]) (by kernel_rfl) (by simp) ?_;refine AllReadyH.cons rfl (fun K j=>?_) (AllReadyH.cons rfl (fun K j=>?_) AllReadyH.nil)
 ·go_simp
  refine j.out _ _ ⟨c2,trivial⟩ (fun a=>?_);clear j K;refine wpAnyH_ready (rs:=[13]) (by kernel_rfl) (by simp) ?_;refine AllReadyH.cons rfl (fun K j=>?_) AllReadyH.nil
  go_simp
  refine j.out _ _ ⟨u,trivial⟩ (fun a=>?_);clear j K;refine wpAnyH_ready (rs:=[14]) (by kernel_rfl) (by simp) ?_;refine AllReadyH.cons rfl (fun K j=>?_) AllReadyH.nil;refine zc rfl (.tmp 17) (.tmp 19) rfl rfl (by simp[Act.eval]) (by simp[Act.eval]) m (j.out _ _ ⟨C,trivial⟩ (fun a=>?_));simp only[Act.put];clear j K;refine wpAnyH_take (i:=15) (v:=.pointer (some ⟨p.ob,x,none⟩)) rfl (by kernel_rfl) (by kernel_rfl) (by kernel_rfl) (fun _ _ _ h=>h) (Or.inl ⟨by rfl,fun o d=>?_⟩) a ?_
  ·(obtain⟨f,-⟩:=d;go_simp)
  simp only[Act.put];refine wpAnyH_ready (rs:=[16]) (by kernel_rfl) (by simp) ?_;refine AllReadyH.cons rfl (fun K j=>?_) AllReadyH.nil
  go_simp
  refine j.out _ _ ⟨s2,trivial⟩ (fun a=>?_);clear j K;refine wpAnyH_done (by kernel_rfl) ?_ _;go_wp2_with fail;go_end0;exact⟨rfl,I.out⟩
 ·go_simp
  refine j.out _ _ ⟨u,trivial⟩ (fun a=>?_);clear j K;refine wpAnyH_ready (rs:=[11]) (by kernel_rfl) (by simp) ?_;refine AllReadyH.cons rfl (fun K j=>?_) AllReadyH.nil
  go_simp
  refine j.out _ _ ⟨u,trivial⟩ (fun a=>?_);clear j K;refine wpAnyH_ready (rs:=[14]) (by kernel_rfl) (by simp) ?_;refine AllReadyH.cons rfl (fun K j=>?_) AllReadyH.nil;refine zc rfl (.tmp 17) (.tmp 19) rfl rfl (by simp[Act.eval]) (by simp[Act.eval]) m (j.out _ _ ⟨C,trivial⟩ (fun a=>?_));simp only[Act.put];clear j K;refine wpAnyH_take (i:=15) (v:=.pointer (some ⟨p.ob,x,none⟩)) rfl (by kernel_rfl) (by kernel_rfl) (by kernel_rfl) (fun _ _ _ h=>h) (Or.inl ⟨by rfl,fun o d=>?_⟩) a ?_
  ·(obtain⟨f,-⟩:=d;go_simp)
  simp only[Act.put];refine wpAnyH_ready (rs:=[16]) (by kernel_rfl) (by simp) ?_;refine AllReadyH.cons rfl (fun K j=>?_) AllReadyH.nil
  go_simp
  refine j.out _ _ ⟨s2,trivial⟩ (fun a=>?_);clear j K;refine wpAnyH_done (by kernel_rfl) ?_ _;go_wp2_with fail;go_end0;exact⟨rfl,I.out⟩
theorem qe5(W:World)(B f n m:Nat)(p:FP)(E:List Bool)(d:List (List Nat))(h:FM W B f p n m E d)(r:B<=W.heap.size)(a b:Nat)(s:d.length<100000):
  Calls Tryz.prog 72 #[.pointer (some ⟨f,0,none⟩),.int .i64 (a:Int),.int .i64 (b:Int)] W fun e j=>e=.returned (.int .i64 (d.length:Int))/\∃i,i.eb=p.eb/\FM j B f i n m E (d++[[a,b]])/\FV W f p j i:=by
 obtain⟨g,c,j,k,u,v,l,o⟩:=h.fork r a b s;have t:=z8 h.bod;have c2:=h.c2;have s2:=l.c2;rw[List.length_append]at s2
 have q:Hid (∃i,i.eb=p.eb/\FM (j.setCell ⟨f,2,none⟩ (.slice (some ⟨g,0,none⟩) (d.length+1) c)) B f i n m E (d++[[a,b]])/\FV W f p (j.setCell ⟨f,2,none⟩ (.slice (some ⟨g,0,none⟩) (d.length+1) c)) i):=⟨⟨p.eb,g,c,p.vs++[(some ⟨W.heap.size,0,none⟩,2)]⟩,rfl,l,o⟩
 clear h l o
 generalize d.length=x at *
 simp only[List.length_singleton]at s2;go_enter Tryz.func72,Tryz.ntmps72;go_wp2_with(at_builtin;refine Lib.wpList_append_run _ rfl _ _ _ _ rfl _ _ rfl rfl _ _ k ?_)
 go_ret;exact⟨by simp,q.out⟩
structure FQ (W wr:World) (Bf sb:Nat) (ta:Option Addr) (tc:Nat) (seen:List Bool) (todo:List Nat):Prop where
 bel:Below Bf W wr
 tod:wr.ownsRow Bf 3 1 (.slice ta todo.length tc) todo.length (natC todo)
 see:wr.ownsRow Bf 4 1 (.slice (some ⟨sb,0,none⟩) seen.length seen.length) seen.length (booC seen)
theorem FQ.pop{W wr:World}{i j k x:Nat}{f:Option Addr}{a:List Bool}{t:List Nat}(h:FQ W wr i j f k a (t++[x])):∃g,f=some ⟨g,0,none⟩/\wr.cell? ⟨g,t.length,none⟩=some (.int .i64 (x:Int))/\FQ W wr i j f k a t:=by
 have d:=h.tod;rw[List.length_append,jf]at d
 obtain⟨g,rfl⟩:∃g,f=some ⟨g,0,none⟩:=by
  obtain⟨l,c,e,-,-,b⟩:=zh d
  cases e
  rcases b with ⟨-,b,-⟩ | b
  ·exact absurd b (by simp)
  ·exact b
 refine⟨g,rfl,?_,h.bel,qj3 d,h.see⟩;have:=d.cellAt t.length (by simp);rw[this,List.getElem?_append_right (by rw[js];exact Nat.le_refl _),js,Nat.sub_self]
 rfl
theorem FQ.seeAt{W wr:World}{c b g x:Nat}{f:Option Addr}{a:List Bool}{t:List Nat}(h:FQ W wr c b f g a t)(d:x<a.length):wr.cell? ⟨b,x,none⟩=some (.bool (isF a x))/\wr.frozen? ⟨b,x,none⟩=false:=by
 refine⟨?_,h.see.frozenAt x⟩;have:=h.see.cellAt x (by omega);rw[this];unfold booC;rw[List.getElem?_map,vm d];rfl
theorem FQ.add{W wr:World}{f a s x m y:Nat}{r v:Option Addr}{d:List Bool}{t l:List Nat}(h:FQ W wr f a r s d t)(u:f<=wr.heap.size)(D:Row (wr.setCell ⟨a,x,none⟩ (.bool true)) 1 v m y (natC l))(z:m=l.length)(A:t.length+m<1000000):
  ∃j c g,(Builtin.append_ #[26,26] 26 #[.slice r t.length s,.slice v m y]).run Tryz.prog (wr.setCell ⟨a,x,none⟩ (.bool true))=.ok (.slice j (t.length+m) c) g/\FQ W g f a j c (d.set x true) (t++l):=by
 subst z;have E:Loc wr a 4:=(qw h.see (b:=a) rfl).2.2;have s1:(wr.setCell ⟨a,x,none⟩ (.bool true)).ownsRow f 3 1 (.slice r t.length s) t.length (natC t):=qh h.tod (fun i o=>Below.heap_setCell _ _ _ _ (qr (qx h.tod o) E (by decide)));have s2:=(h.see.stored x (.bool true)).1;have n:Below f W (wr.setCell ⟨a,x,none⟩ (.bool true)):=h.bel.setCell (p:=⟨a,x,none⟩) (qw h.see (b:=a) rfl).1 _;obtain⟨j,c,g,C,B,q,F⟩:=qrg s1 (by simpa [World.setCell] using u) D A;refine⟨j,c,g,C,?_,by rw[List.length_append];exact B,?_⟩
 ·refine n.trans (q.below (by simpa [World.setCell] using u) (fun k q e=>?_));have:=(qw s1 e).1;omega
 ·rw[<-qdd,List.length_set]at *
  refine qh s2 (fun i o=>by
   cases o
   exact q.block a (qw s2 (b:=a) rfl).2.1 (fun e=>qr (qw s1 e).2.2 (qw s2 (b:=a) rfl).2.2 (by decide) rfl))
theorem qp1{V:World}{f m t k:Nat}{p:Option Addr}{l:List Nat}{a:List Bool}{n:Nat}(h:V.ownsRow f 3 1 (.slice p l.length t) l.length (natC l))(o:V.ownsRow f 4 1 (.slice (some ⟨m,0,none⟩) n n) n (booC a))(q:f<=V.heap.size)(y:l.length<100000):
  ∃g c d,(Builtin.append_ #[26,26] 26 #[.slice p l.length t,.slice (some ⟨V.heap.size,0,none⟩) 1 1]).run Tryz.prog (V.alloc (.cells #[.int .i64 (k:Int)] 3))=.ok (.slice (some ⟨g,0,none⟩) (l.length+1) c) d/\d.ownsRow f 3 1 (.slice (some ⟨g,0,none⟩) (l.length+1) c) (l.length+1) (natC (l++[k]))/\d.ownsRow f 4 1 (.slice (some ⟨m,0,none⟩) n n) n (booC a)/\Below f V d:=by
 obtain⟨g,c,d,A,z,x,-⟩:=jc (us:=[.int .i64 (k:Int)]) u29 i3 rfl (by decide) (by decide) rfl (fun u r=>by rw[List.mem_singleton]at r;subst r;rfl) h q y
 have s:Kept (fun j=>blk p=some j) V d:=((Kept.refl _ V).alloc _).trans x (fun k _ e=>zi e);refine⟨g,c,d,A,by rw[jf];exact z,?_,s.below q (fun j B e=>by have:=(qw h e).1;omega)⟩
 exact qh o (fun i v=>by
  cases v
  exact s.block m (qw o (b:=m) rfl).2.1 (fun e=>qr (qw h e).2.2 (qw o (b:=m) rfl).2.2 (by decide) rfl))
structure FL (W wr:World) (Bf sb wn tk:Nat) (la:Option Addr) (lc:Nat) (seen:List Bool) (k:Nat):Prop where
 bel:Below Bf W wr
 lst:wr.ownsRow Bf 3 1 (.slice la (upTo (fun x=>isF seen x && decide (x<=tk)) k).length lc) (upTo (fun x=>isF seen x && decide (x<=tk)) k).length (natC (upTo (fun x=>isF seen x && decide (x<=tk)) k))
 see:wr.ownsRow Bf 4 1 (.slice (some ⟨sb,0,none⟩) wn wn) wn (booC seen)
theorem qef(W:World)(B fb n z r:Nat)(p:FP)(E:List Bool)(o:List (List Nat))(h:FM W B fb p n z E o)(hI:Ins o)(M:∀k,FK fb p k->k<r)(hB:r<=W.heap.size)(j:List Nat)(fa:Option Addr)(fc m:Nat)(hm:j.length=m)(F:W.ownsRow r 3 1 (.slice fa m fc) m (natC j))(A:∀x∈j,x<o.length)(a9:o.length<=50000)(a2:m+tot o<=900000)(a7:z<o.length):
  Calls Tryz.prog 50 #[.pointer (some ⟨fb,0,none⟩),.slice fa m fc] W fun e W'=>∃l T O,e=.returned (.slice T (l:List Nat).length O)/\IsL (z+1) (fun t=>∃a∈j,Got o a t) l/\W'.ownsRow r 3 1 (.slice T l.length O) l.length (natC l)/\Below r W W':=by
 have HX:Hid (FM W B fb p n z E o/\Ins o/\(∀k,FK fb p k->k<r)/\z<o.length/\j.length+tot o<=900000):=⟨h,hI,M,a7,by rw[hm];exact a2⟩
 have HM:Hid (∀V:World,Below r W V->V.cell? ⟨fb,0,none⟩=some (.int .i64 (z:Int))/\V.cell? ⟨fb,2,none⟩=some (.slice (some ⟨p.ob,0,none⟩) o.length p.oc)/\∀(x:Nat) (l:List Nat),o[x]?=some l->∃q:Option Addr × Nat,V.cell? ⟨p.ob,x,none⟩=some (.slice q.1 l.length q.2)/\Row V 1 q.1 l.length q.2 (natC l)/\∀k,blk q.1=some k->k<r):=fun V hV=>by
  have hF:=h.keep (fun k hk=>hV.block k (M k hk));refine⟨hF.c0,hF.c2,fun x l hl=>?_⟩;obtain⟨q,I,hc,-⟩:=hF.at hl;exact⟨q,hc,Row.of_own (hF.row x q l I hl),fun k e=>M k (.inr (.inr (.inr ⟨x,q,I,e⟩)))⟩
 have c3:=z8 h.bod;have a3:=z8 F;obtain⟨c0,c2,-⟩:=HM.out W (Below.refl _ _)
 obtain⟨s,X⟩:∃s,Hid (o.length=s):=⟨_,rfl⟩
 obtain⟨i0,hi,b0,b1,b2⟩:=info_parts i4;obtain⟨w1,hr,ho,hg⟩:=run_make_full (P:=Tryz.prog) W r 41 4 i0 _ 1 u51 hi b0 b1 .i64 .i64 s (by rw[b2];have:=X.out;omega) (by unfold maxLen;have:=X.out;omega) hB
 rw[qfn]at ho
 have L:Hid (FQ W w1 r W.heap.size fa fc (List.replicate s false) j/\Dfs o j (List.replicate s false) j):=by
  have hb:Below r W w1:=(Below.refl r W).grown hg hB (fun k hk=>by cases hk);refine⟨⟨hb,?_,by rw[List.length_replicate];exact ho⟩,by rw[<-X.out];exact Dfs.begin A⟩
  rw[hm];exact qh F (fun i hi=>((Below.refl W.heap.size W).grown hg (Nat.le_refl _) (fun k hk=>by cases hk)).block i (qw F (zi hi)).2.1)
 rw[X.out]at c2 c3
 have c6:s<=50000:=by rw[<-X.out];exact a9
 clear hi b0 b1 b2 ho hg h hI M F A a9 a2 a7;go_enter Tryz.func50,Tryz.ntmps50
 go_upto_block 0 with fail
 clear hr c0 c2;generalize W.heap.size=K at L ⊢
 go_cut [1] (fun s1 wd=>Hid (∃ta Q d,FQ W wd r K ta Q d []/\Dfs o j d []))
 case first =>
  go_wp2_with fail
  go_loopg [1] (m+tot o) (fun kx s1 wr=>∃ta Q tl,s1=.slice ta tl Q/\tl<=Q/\Q<=9223372036854775807/\Hid (∃d f,(f:List Nat).length=tl/\FQ W wr r K ta Q d f/\Dfs o j d f/\tl+un o d<=kx))
  case atStart =>
   refine⟨fa,fc,m,rfl,a3.1,a3.2,(⟨_,j,hm,L.out.1,L.out.2,?_⟩:∃d f,(f:List Nat).length=m/\FQ W w1 r K fa fc d f/\Dfs o j d f/\m+un o d<=m+tot o)⟩;have:=L.out.2.siz;omega
  case round =>
   clear L a3 hm;obtain⟨ta,Q,tl,rfl,c7,c8,J⟩:=hrel
   by_cases h0:tl=0
   ·subst h0
    have R:Hid (∃ta Q d,FQ W wr r K ta Q d []/\Dfs o j d []):=by
     obtain⟨d,f,h1,h2,Z,-⟩:=J.out;have:f=[]:=List.length_eq_zero_iff.1 h1;subst this;exact⟨ta,Q,d,h2,Z⟩
    clear J;go_wp2_with fail;go_meet;exact R
   ·obtain⟨d,f,h1,h2,Z,h4⟩:=J.out;obtain⟨t,x,rfl⟩:=qh3 f (fun e=>h0 (by rw[<-h1,e];rfl))
    obtain⟨g,rfl,cx,I⟩:=h2.pop;have c5:x<o.length:=Z.ins x (by simp)
    have N:d.length=s:=by rw[Z.len];exact X.out
    obtain⟨cs,fs⟩:=I.seeAt (x:=x) (by rw[Z.len];exact c5)
    have a8:t.length+1=tl:=by rw[<-h1];simp
    have d1:(x:Int)<(s:Int):=by have:=X.out;omega
    have b5:r<=wr.heap.size:=Nat.le_trans hB I.bel.size
    cases F:isF d x
    ·obtain⟨l,hl⟩:∃l,o[x]?=some l:=⟨o[x],List.getElem?_eq_getElem _⟩
     obtain⟨Y,v⟩:=Z.take HX.out.2.1 F hl;have hV:Below r W (wr.setCell ⟨K,x,none⟩ (.bool true)):=I.bel.setCell (p:=⟨K,x,none⟩) (qw I.see (b:=K) rfl).1 _;obtain⟨-,v2,v3⟩:=HM.out _ hV;obtain⟨q,v4,S,-⟩:=v3 x l hl;have a6:=Y.siz;have c4:=ze S;rw[List.length_append]at a6;obtain⟨va,c,W',G,a4⟩:=I.add b5 S rfl (by have:=HX.out.2.2.2.2;omega)
     have D:=z8 a4.tod;rw[List.length_append]at D;rw[F]at cs;rw[X.out]at v2
     have R:Hid (∃d f,(f:List Nat).length=t.length+l.length/\FQ W W' r K va c d f/\Dfs o j d f/\t.length+l.length+un o d<=gk - 1):=by
      refine⟨_,_,by rw[List.length_append],a4,Y,?_⟩;simp only[List.length_append,List.length_singleton]at v;omega
     have b6:1<=gk:=by omega
     obtain⟨qa,qc⟩:=q;simp only at G v4 c4;clear a4 Y h2 Z I S h4 J h1 hV v3 N hl v a6 F
     generalize l.length=lm at *
     generalize t.length=tm at *
     subst a8
     have m1:(0:Int)<(tm:Int)+1:=by omega
     go_wp2_with(at_builtin;refine Lib.wpList_append_run _ rfl _ _ _ _ rfl _ _ rfl rfl _ _ G ?_)
     go_roundg (gk - 1)
     case measure=>omega
     case rel=>exact⟨va,c,tm+lm,by simp,D.1,D.2,R⟩
    ·obtain⟨Y,v⟩:=Z.pass F;rw[F]at cs;have D:=z8 I.tod
     have R:Hid (∃d f,(f:List Nat).length=t.length/\FQ W wr r K (some ⟨g,0,none⟩) Q d f/\Dfs o j d f/\t.length+un o d<=gk - 1):=by
      refine⟨_,_,rfl,I,Y,?_⟩;simp only[List.length_append,List.length_singleton]at v;omega
     have b6:1<=gk:=by omega
     clear Y h2 Z I h4 J h1 N v F
     generalize t.length=tm at *
     subst a8
     have m1:(0:Int)<(tm:Int)+1:=by omega
     go_wp2_with fail;go_roundg (gk - 1)
     case measure=>omega
     case rel=>exact⟨some ⟨g,0,none⟩,Q,tm,by simp,D.1,D.2,R⟩
 case rest =>
  obtain⟨w8,d0⟩:∃w8,w8=wc:=⟨_,rfl⟩
  subst wc;obtain⟨ta,Q,d,I,Y⟩:=hcut.out
  have N:d.length=s:=by rw[Y.len];exact X.out
  have HD:Hid (Dfs o j d []/\d.length=s):=⟨Y,N⟩
  have HL:Hid (FL W w8 r K s z none 0 d 0):=⟨I.bel,World.ownsRow_nil _ _ _ _,by have:=I.see;rw[N]at this;exact this⟩
  clear hcut I Y N L;go_wp2_with fail
  go_loopg [49,8] s (fun kx s49 s8 wr=>∃(k:Nat) (T:Option Addr) (O U:Nat),s49=.int .i64 k/\s8=.slice T U O/\k<=s/\U<=k/\U<=O/\O<=9223372036854775807/\s - k<=kx/\Hid (U=(upTo (fun x=>isF d x && decide (x<=z)) k).length/\FL W wr r K s z T O d k))
  case atStart=>exact⟨0,none,0,0,rfl,rfl,Nat.zero_le _,Nat.le_refl _,Nat.le_refl _,by omega,by omega,(⟨rfl,HL.out⟩:0=(upTo (fun x=>isF d x && decide (x<=z)) 0).length/\FL W w8 r K s z none 0 d 0)⟩
  case round =>
   clear HL;obtain⟨k,T,O,U,rfl,rfl,hk,c9,a0,a1,hg,J⟩:=hrel
   by_cases M:k<s
   ·have a5:(k:Int)<(s:Int):=by omega
    obtain⟨C,y⟩:=J.out;obtain⟨c0,-,-⟩:=HM.out _ y.bel
    have b8:k<d.length:=by rw[HD.out.2];exact M
    have ck:wr.cell? ⟨K,k,none⟩=some (.bool (isF d k)):=by
     have:=y.see.cellAt k (by omega);rw[this];unfold booC;rw[List.getElem?_map,vm b8];rfl
    have H:=qnr (fun x=>isF d x && decide (x<=z)) k
    by_cases A:isF d k=true/\k<=z
    ·have u:(isF d k && decide (k<=z))=true:=by rw[A.1];simp[A.2]
     rw[if_pos u]at H;obtain⟨g,c,W',G,ho,hs,hb⟩:=qp1 (k:=k) y.lst y.see (Nat.le_trans hB y.bel.size) (by rw[<-C];omega)
     rw[<-C]at G ho
     have R:Hid (U+1=(upTo (fun x=>isF d x && decide (x<=z)) (k+1)).length/\FL W W' r K s z (some ⟨g,0,none⟩) c d (k+1)):=by
      refine⟨by rw[H,List.length_append,<-C];rfl,y.bel.trans hb,?_,hs⟩
      rw[H,List.length_append,<-C];exact ho
     have D:=z8 ho;rw[A.1]at ck
     have b9:(k:Int)<=(z:Int):=by omega
     clear y J hs ho H C u hb;go_wp2_with(at_builtin;refine Lib.wpList_append_run _ rfl _ _ _ _ rfl _ _ rfl rfl _ _ G ?_)
     go_roundg (s - (k+1))
     case measure=>omega
     case rel=>exact⟨k+1,some ⟨g,0,none⟩,c,U+1,by simp,by simp,by omega,by omega,D.1,D.2,Nat.le_refl _,R⟩
    ·have u:¬(isF d k && decide (k<=z))=true:=by rw[Bool.and_eq_true,decide_eq_true_eq];exact A
     rw[if_neg u]at H
     have R:Hid (U=(upTo (fun x=>isF d x && decide (x<=z)) (k+1)).length/\FL W wr r K s z T O d (k+1)):=by
      refine⟨by rw[H];exact C,y.bel,?_,y.see⟩
      rw[H];exact y.lst
     clear y J H C u
     cases F:isF d k
     ·rw[F]at ck;clear A F;go_wp2_with fail;go_roundg (s - (k+1))
      case measure=>omega
      case rel=>exact⟨k+1,T,O,U,by simp,rfl,by omega,by omega,a0,a1,Nat.le_refl _,R⟩
     ·rw[F]at ck
      have b9:¬(k:Int)<=(z:Int):=fun e=>A ⟨F,by omega⟩
      clear A F;go_wp2_with fail;go_roundg (s - (k+1))
      case measure=>omega
      case rel=>exact⟨k+1,T,O,U,by simp,rfl,by omega,by omega,a0,a1,Nat.le_refl _,R⟩
   ·have b7:k=s:=by omega
    subst b7
    have a5:¬(k:Int)<(k:Int):=by omega
    obtain⟨C,y⟩:=J.out
    have R:Hid (∃(l:List Nat) (b3:Option Addr) (b4:Nat),Ending.returned (.slice T U O)=Ending.returned (.slice b3 l.length b4)/\IsL (z+1) (fun t=>∃a∈j,Got o a t) l/\wr.ownsRow r 3 1 (.slice b3 l.length b4) l.length (natC l)/\Below r W wr):=by
     refine⟨_,T,O,by rw[C],?_,y.lst,y.bel⟩;have:=HD.out.1.told HX.out.2.2.2.1;rw[X.out]at this;exact this
    clear y J C;go_wp2_with fail;go_ret;exact R.out
structure FS (W:World) (B fb:Nat) (p:FP) (n:Nat) (S:Sp) (E:List Bool) (WL:List (List Nat)):Prop where
 fm:FM W B fb p n S.tk E WL
 ways:Ways S n WL
 emp:∀z,isF E z=true↔Nul S z
 nn:n=S.tk+1+S.nt
 wl:WL.length<=50000
 tt:tot WL<=100000
 wf:WF S
 sy:∀r∈S.rs,∀y∈r.r,y<n/\y≠S.tk
theorem FS.below{W a:World}{B c:Nat}{p:FP}{n:Nat}{S:Sp}{E:List Bool}{b:List (List Nat)}(h:FS W B c p n S E b)(d:Below W.heap.size W a):FS a B c p n S E b:=⟨h.fm.below d,h.ways,h.emp,h.nn,h.wl,h.tt,h.wf,h.sy⟩
def Told (w w':World) (m:Nat) (Q:Nat->Prop) (e:Ending):Prop:=∃(l:List Nat) (la:Option Addr) (lc:Nat),e=.returned (.slice la l.length lc)/\IsL m Q l/\w'.ownsRow w.heap.size 3 1 (.slice la l.length lc) l.length (natC l)/\Below w.heap.size w w'
theorem Told.congr{w a:World}{m:Nat}{Q R:Nat->Prop}{e:Ending}(h:Told w a m Q e)(k:∀t,t<m->(Q t↔R t)):Told w a m R e:=by
 obtain⟨l,f,g,b,c,d⟩:=h;exact⟨l,f,g,b,c.congr k,d⟩
structure OL (W wr:World) (S:Sp) (syms:List Nat) (fa:Option Addr) (fc k:Nat):Prop where
 bel:Below W.heap.size W wr
 own:wr.ownsRow W.heap.size 3 1 (.slice fa k fc) k (natC (syms.take k))
 emp:∀z∈syms.take k,Nul S z
theorem qck(W:World)(B D n:Nat)(p:FP)(E:List Bool)(S:Sp)(L:List (List Nat))(h:FS W B D p n S E L)(d:List Nat)(sa:Option Addr)(m sc:Nat)(hm:d.length=m)(b7:m<=1000)(F:Row W 1 sa m sc (natC d))(a6:∀z∈d,z<n/\z≠S.tk)(v:Int)(a7:v=-1\/(0<=v/\v<=(S.tk:Int))):
  Calls Tryz.prog 19 #[.pointer (some ⟨D,0,none⟩),.slice sa m sc,.int .i64 v] W fun e j=>Told W j (S.tk+1) (fun t=>FstL S d t\/((∀z∈d,Nul S z)/\(t:Int)=v)) e:=by
 have i:Hid (FS W B D p n S E L/\(∀z∈d,z<n/\z≠S.tk)/\S.tk<n/\Row W 1 sa m sc (natC d)):=⟨h,a6,by rw[h.nn];omega,F⟩
 have b5:n<=1000:=by have:=h.nn;have:=h.wf.tk;have:=h.wf.nt;omega
 have b9:S.tk<n:=by rw[h.nn];omega
 have b8:=ze F
 have HC:Hid (∀V:World,Below W.heap.size W V->V.cell? ⟨D,0,none⟩=some (.int .i64 (S.tk:Int))/\V.cell? ⟨D,1,none⟩=some (.slice (some ⟨p.eb,0,none⟩) n n)/\∀z,z<n->V.cell? ⟨p.eb,z,none⟩=some (.bool (isF E z))):=fun V N=>⟨(h.fm.below N).c0,(h.fm.below N).c1,fun z A=>(h.fm.below N).ce A⟩
 have HD:Hid (∀(V:World) (f:List Nat) (q:Option Addr) (o k:Nat),f.length=k->k<=2000->Below W.heap.size W V->V.ownsRow W.heap.size 3 1 (.slice q k o) k (natC f)->(∀x∈f,x<n)->Calls Tryz.prog 50 #[.pointer (some ⟨D,0,none⟩),.slice q k o] V fun e j=>∃(l:List Nat) (I:Option Addr) (K:Nat),e=.returned (.slice I l.length K)/\IsL (S.tk+1) (fun t=>∃a∈f,Got L a t) l/\j.ownsRow W.heap.size 3 1 (.slice I l.length K) l.length (natC l)/\Below W.heap.size V j):=fun V f q o k hk b6 N H s =>
  qef V B D n S.tk W.heap.size p E L (h.fm.below N) h.ways.ins (fun k hk=>(h.fm.lt hk).2.1) N.size f q o k hk H (fun x b3=>by have:=s x b3;have:=h.ways.len;omega) h.wl (by have:=h.tt;omega) (by have:=h.ways.len;omega)
 have T:Hid (∀(V j:World) (e:Ending) (f:List Nat),Below W.heap.size W V->(∀t,t<S.tk+1->((∃a∈f,Got L a t)↔(fun t=>FstL S d t\/((∀z∈d,Nul S z)/\(t:Int)=v)) t))->(∃(l:List Nat) (I:Option Addr) (K:Nat),e=.returned (.slice I l.length K)/\IsL (S.tk+1) (fun t=>∃a∈f,Got L a t) l/\j.ownsRow W.heap.size 3 1 (.slice I l.length K) l.length (natC l)/\Below W.heap.size V j)->Told W j (S.tk+1) (fun t=>FstL S d t\/((∀z∈d,Nul S z)/\(t:Int)=v)) e):=fun V j e f N hq ⟨l,I,K,h1,X,h3,h4⟩=>⟨l,I,K,h1,X.congr hq,h3,N.trans h4⟩
 have HM:Hid (d.length=m):=hm
 have U:Hid (OL W W S d none 0 0):=⟨Below.refl _ _,World.ownsRow_nil _ _ _ _,fun z A=>by cases A⟩
 clear h F a6 hm;go_enter Tryz.func19,Tryz.ntmps19
 go_upto_block 0 with fail
 go_cut [7] (fun s7 wd=>∃(q:Option Addr) (o:Nat),s7=.slice q m o/\m<=o/\o<=9223372036854775807/\Hid (OL W wd S d q o m))
 case first =>
  go_wp2_with fail
  go_loopg [14,7] m (fun kx s14 s7 wr=>∃(k:Nat) (q:Option Addr) (o:Nat),s14=.int .i64 k/\s7=.slice q k o/\k<=m/\k<=o/\o<=9223372036854775807/\m - k<=kx/\Hid (OL W wr S d q o k))
  case atStart=>exact⟨0,none,0,rfl,rfl,Nat.zero_le _,Nat.le_refl _,by omega,by omega,U⟩
  case round =>
   clear U;obtain⟨k,q,o,rfl,rfl,hk,a3,a4,hg,J⟩:=hrel
   by_cases b0:k<m
   ·have a5:(k:Int)<(m:Int):=by omega
    obtain⟨y,hy⟩:∃y,d[k]?=some y:=⟨d[k]'(by rw[HM.out];exact b0),List.getElem?_eq_getElem _⟩
    have b4:=i.out.2.1 y (List.mem_of_getElem? hy);obtain⟨bx,ox,b2,cy⟩:=vj (i.out.2.2.2.below J.out.bel) hy;subst b2;obtain⟨c0,c1,c3⟩:=HC.out wr J.out.bel;obtain⟨g,c,j,r,H,-,u⟩:=ql7 J.out.own J.out.bel.size (by omega) y;have a0:Below W.heap.size W j:=J.out.bel.trans u
    have Q:d.take (k+1)=d.take k++[y]:=by rw[List.take_add_one,hy];rfl
    rw[<-Q]at H
    have C:Hid (Below W.heap.size W j/\j.ownsRow W.heap.size 3 1 (.slice (some ⟨g,0,none⟩) (k+1) c) (k+1) (natC (d.take (k+1)))):=⟨a0,H⟩
    have Z:Hid (d[k]?=some y/\∀z∈d.take k,Nul S z):=⟨hy,J.out.emp⟩
    have Y:=z8 H;have HY:Hid (y<n/\y≠S.tk):=b4
    have a1:decide ((y:Int)≠(S.tk:Int)/\0<=(y:Int)/\(y:Int)<(n:Int))=true:=by
     rw[decide_eq_true_eq];omega
    clear J H u a0 Q;go_wp2_with fail;refine(qee wr D S.tk n n (some ⟨p.eb,0,none⟩) c0 c1 (y:Int)).mono ?_;rintro e w1 ⟨rfl,rfl⟩;rw[a1];clear a1 c3;go_wp2_with(at_builtin;refine Lib.wpList_append_run _ rfl _ _ _ _ rfl _ _ rfl rfl _ _ r ?_)
    obtain⟨e0,e1,e3⟩:=HC.out j C.out.1;refine(qc0 j D p.eb n n y (isF E y) e1 HY.out.1 (e3 y HY.out.1)).mono ?_;rintro e w2 ⟨rfl,rfl⟩;clear r c0 c1 cy e0 e1 e3
    cases P:isF E y
    ·have HQ:Hid (∀t,t<S.tk+1->((∃a∈d.take (k+1),Got L a t)↔(fun t=>FstL S d t\/((∀z∈d,Nul S z)/\(t:Int)=v)) t)):=fun t Q=>by
      have b1:¬Nul S y:=fun e=>by rw[<-i.out.1.emp,P]at e;cases e
      exact qpd i.out.1.ways i.out.2.2.1 i.out.2.1 Z.out.1 Z.out.2 b1 (by omega) _
     have HL:Hid ((d.take (k+1)).length=k+1/\∀x∈d.take (k+1),x<n):=⟨by rw[List.length_take,HM.out];omega,fun x s=>(i.out.2.1 x (List.mem_of_mem_take s)).1⟩
     clear P Z;go_wp2_with fail;refine(HD.out w2 _ _ _ (k+1) HL.out.1 (by omega) C.out.1 C.out.2 HL.out.2).mono ?_;rintro e R M;have HT:Hid (Told W R (S.tk+1) (fun t=>FstL S d t\/((∀z∈d,Nul S z)/\(t:Int)=v)) e):=T.out w2 R e _ C.out.1 HQ.out M;obtain⟨l,I,K,rfl,-⟩:=M;go_wp2_with fail;go_ret;exact HT.out
    ·have HF:Hid (OL W w2 S d (some ⟨g,0,none⟩) c (k+1)):=by
      refine⟨C.out.1,C.out.2,fun z A=>?_⟩;rw[List.take_add_one,List.mem_append]at A
      rcases A with A | A
      ·exact Z.out.2 z A
      ·rw[Z.out.1]at A;rw[Option.toList_some,List.mem_singleton]at A;subst A;exact(i.out.1.emp z).1 P
     clear P Z C;go_wp2_with fail;go_roundg (m - (k+1))
     case measure=>omega
     case rel=>exact⟨k+1,some ⟨g,0,none⟩,c,by simp,by simp,by omega,Y.1,Y.2,Nat.le_refl _,HF⟩
   ·have a9:k=m:=by omega
    subst a9
    have a5:¬(k:Int)<(k:Int):=by omega
    go_wp2_with fail;go_meet;exact⟨q,o,rfl,a3,a4,J⟩
 case rest =>
  obtain⟨w8,c4⟩:∃w8,w8=wc:=⟨_,rfl⟩
  subst wc;obtain⟨q,o,rfl,a3,a4,J⟩:=hcut;have Q:d.take m=d:=List.take_of_length_le (by rw[HM.out];exact Nat.le_refl _)
  have G:Hid (Below W.heap.size W w8/\w8.ownsRow W.heap.size 3 1 (.slice q m o) m (natC d)/\∀z∈d,Nul S z):=by
   have h1:=J.out.own;have X:=J.out.emp;rw[Q]at h1 X;exact⟨J.out.bel,h1,X⟩
  clear J U Q;obtain⟨c0,c1,c3⟩:=HC.out w8 G.out.1;go_wp2_with fail;refine(qbp w8 D n n (some ⟨p.eb,0,none⟩) c1 v).mono ?_;rintro e w1 ⟨rfl,rfl⟩
  rcases a7 with rfl | ⟨hb0,u⟩
  ·have hd:decide (0<=(-1:Int)/\(-1:Int)<(n:Int))=false:=by
    rw[decide_eq_false_iff_not];omega
   rw[hd]
   have HQ:Hid (∀t,t<S.tk+1->((∃a∈d,Got L a t)↔(FstL S d t\/((∀z∈d,Nul S z)/\(t:Int)=-1)))):=fun t Q=>by
    rw[ql0 i.out.1.ways i.out.2.2.1 i.out.2.1 G.out.2.2 (by omega)];exact⟨.inl,fun h=>h.elim id (fun h=>by have:=h.2;omega)⟩
   clear hd c0 c1 c3;go_wp2_with fail;refine(HD.out w1 _ _ _ m HM.out (by omega) G.out.1 G.out.2.1 (fun x s=>(i.out.2.1 x s).1)).mono ?_;rintro e R M;have HT:Hid (Told W R (S.tk+1) (fun t=>FstL S d t\/((∀z∈d,Nul S z)/\(t:Int)=-1)) e):=T.out w1 R e _ G.out.1 HQ.out M;obtain⟨l,I,K,rfl,-⟩:=M;go_wp2_with fail;go_ret;exact HT.out
  ·obtain⟨b,rfl⟩:∃b:Nat,v=(b:Int):=⟨v.toNat,by omega⟩
   have a8:b<=S.tk:=by omega
   have hd:decide (0<=(b:Int)/\(b:Int)<(n:Int))=true:=by
    rw[decide_eq_true_eq];omega
   rw[hd];obtain⟨g,c,j,r,H,-,u⟩:=ql7 G.out.2.1 G.out.1.size (by omega) b
   have C:Hid (Below W.heap.size W j/\j.ownsRow W.heap.size 3 1 (.slice (some ⟨g,0,none⟩) (m+1) c) (m+1) (natC (d++[b]))):=⟨G.out.1.trans u,H⟩
   have HQ:Hid (∀t,t<S.tk+1->((∃a∈d++[b],Got L a t)↔(FstL S d t\/((∀z∈d,Nul S z)/\(t:Int)=(b:Int))))):=fun t Q=>by
    have h1:=ql0 i.out.1.ways i.out.2.2.1 i.out.2.1 G.out.2.2 (t:=t) (by omega);have X:=i.out.1.ways.got_tok (b:=b) (t:=t) a8 (by omega) i.out.2.2.1 (fun t P=>by have:=(qg9 i.out.1.wf (Nat.le_refl _) P).1;omega) (fun x t s P=>(qg9 i.out.1.wf (Nat.le_of_lt s) P).2)
    rw[<-h1]
    constructor
    ·rintro⟨a,O,hg⟩
     rcases List.mem_append.1 O with O | O
     ·exact .inl ⟨a,O,hg⟩
     ·rw[List.mem_singleton]at O;subst O;exact .inr ⟨G.out.2.2,by rw[X.1 hg]⟩
    ·rintro(⟨a,O,hg⟩ | ⟨-,he⟩)
     ·exact⟨a,List.mem_append_left _ O,hg⟩
     ·exact⟨b,by simp,X.2 (by omega)⟩
   have Y:=z8 H
   have a2:decide ((S.tk:Int)<(b:Int)/\(b:Int)<(n:Int))=false:=by
    rw[decide_eq_false_iff_not];omega
   clear hd H u c3;go_wp2_with fail;refine(jt w1 D S.tk n n (some ⟨p.eb,0,none⟩) c0 c1 (b:Int)).mono ?_;rintro e w2 ⟨rfl,rfl⟩;rw[a2];clear a2 c0 c1;go_wp2_with(at_builtin;refine Lib.wpList_append_run _ rfl _ _ _ _ rfl _ _ rfl rfl _ _ r ?_)
   refine(HD.out j _ _ _ (m+1) (by rw[List.length_append,HM.out];rfl) (by omega) C.out.1 C.out.2 (fun x s=>by
    rcases List.mem_append.1 s with s | s
    ·exact(i.out.2.1 x s).1
    ·rw[List.mem_singleton]at s;subst s;omega)).mono ?_
   rintro e R M;have HT:Hid (Told W R (S.tk+1) (fun t=>FstL S d t\/((∀z∈d,Nul S z)/\(t:Int)=(b:Int))) e):=T.out j R e _ C.out.1 HQ.out M;obtain⟨l,I,K,rfl,-⟩:=M;go_wp2_with fail;go_ret;exact HT.out
theorem qm5(F:FuncId)(f:Array Value)(K:∀(args:Array Value) (W:World),(callFunc F args).run Tryz.prog W=.ok (.enter F args) W)(d:Nat->Bool)(W:World)(l:List Nat)(a:Option Addr)(n c:Nat)(C:l.length=n)(h:Row W 1 a n c (natC l))(O:n<=1000)(B:∀V,Below W.heap.size W V->∀z∈l,Calls Tryz.prog F (#[.int .i64 (z:Int)]++f) V fun e k=>e=.returned (.bool (d z))/\Below V.heap.size V k):
  Calls Tryz.prog 77 #[.slice a n c,.func (.func F) #[] f] W fun e G=>Below W.heap.size W G/\((e=.returned (.int .i64 (-1))/\∀z∈l,d z=false)\/∃i:Nat,e=.returned (.int .i64 (i:Int))/\i<n/\∃z∈l,d z=true):=by
 have E:Hid (∀V,Below W.heap.size W V->∀z∈l,Calls Tryz.prog F (#[.int .i64 (z:Int)]++f) V fun e k=>e=.returned (.bool (d z))/\Below V.heap.size V k):=B;have D:Hid (Row W 1 a n c (natC l)):=h;have v:Hid (l.length=n):=C;have L:=ze h;clear h B C;go_enter Tryz.func77,Tryz.ntmps77;go_wp2_with fail
 go_loopg [8] n (fun kx s8 wr=>∃i:Nat,s8=.int .i64 i/\i<=n/\n - i<=kx/\Hid (Below W.heap.size W wr/\∀z∈l.take i,d z=false))
 case atStart=>exact⟨0,rfl,Nat.zero_le _,by omega,(⟨Below.refl _ _,fun q I=>by cases I⟩:Below W.heap.size W W/\∀z∈l.take 0,d z=false)⟩
 case round =>
  obtain⟨i,rfl,N,M,J⟩:=hrel
  by_cases m:i<n
  ·have p:(i:Int)<(n:Int):=by omega
   obtain⟨z,t⟩:∃z,l[i]?=some z:=⟨l[i]'(by rw[v.out];exact m),List.getElem?_eq_getElem _⟩
   obtain⟨b,o,rfl,H⟩:=vj (D.out.below J.out.1) t;have u:Hid (Calls Tryz.prog F (#[.int .i64 (z:Int)]++f) wr fun e k=>e=.returned (.bool (d z))/\Below wr.heap.size wr k):=E.out wr J.out.1 z (List.mem_of_getElem? t);have x:Hid (l[i]?=some z):=t;clear t;go_wp2_with fail;refine u.out.mono ?_;rintro e V ⟨rfl,r⟩;clear H u
   cases s:d z
   ·have j:Hid (Below W.heap.size W V/\∀z∈l.take (i+1),d z=false):=by
     refine⟨qd J.out.1 r,fun y g=>?_⟩;rw[List.take_add_one,List.mem_append]at g
     rcases g with g | g
     ·exact J.out.2 y g
     ·rw[x.out]at g;rw[Option.toList_some,List.mem_singleton]at g;subst g;exact s
    clear J s r;go_wp2_with fail;go_roundg (n - (i+1))
    case measure=>omega
    case rel=>exact⟨i+1,by simp,by omega,Nat.le_refl _,j⟩
   ·have j:Hid (Below W.heap.size W V/\∃z∈l,d z=true):=⟨qd J.out.1 r,z,List.mem_of_getElem? x.out,s⟩
    clear J s r;go_wp2_with fail;go_ret;exact⟨j.out.1,.inr ⟨i,rfl,m,j.out.2⟩⟩
  ·have p:¬(i:Int)<(n:Int):=by omega
   have j:Hid (Below W.heap.size W wr/\∀z∈l,d z=false):=by
    have:i=n:=by omega
    subst this;have A:=J.out.2;rw[List.take_of_length_le (by rw[v.out];exact Nat.le_refl _)]at A
    exact⟨J.out.1,A⟩
   clear J;go_wp2_with fail;go_ret;exact⟨j.out.1,.inl ⟨rfl,j.out.2⟩⟩
theorem qdu(F:FuncId)(b:Array Value)(o:∀(args:Array Value) (W:World),(callFunc F args).run Tryz.prog W=.ok (.enter F args) W)(d:Nat->Bool)(W:World)(l:List Nat)(a:Option Addr)(n c:Nat)(r:l.length=n)(h:Row W 1 a n c (natC l))(v:n<=1000)(p:∀V,Below W.heap.size W V->∀z∈l,Calls Tryz.prog F (#[.int .i64 (z:Int)]++b) V fun e t=>e=.returned (.bool (d z))/\Below V.heap.size V t):
  Calls Tryz.prog 59 #[.slice a n c,.func (.func F) #[] b] W fun e m=>e=.returned (.bool (l.any d))/\Below W.heap.size W m:=by
 have s:Hid (Calls Tryz.prog 77 #[.slice a n c,.func (.func F) #[] b] W fun e m=>Below W.heap.size W m/\((e=.returned (.int .i64 (-1))/\∀z∈l,d z=false)\/∃i:Nat,e=.returned (.int .i64 (i:Int))/\i<n/\∃z∈l,d z=true)):=qm5 F b o d W l a n c r h v p;clear h p o r;go_enter Tryz.func59,Tryz.ntmps59;go_wp2_with fail;refine s.out.mono ?_;rintro e V ⟨q,⟨rfl,g⟩ | ⟨i,rfl,y,f⟩⟩
 ·have j:l.any d=false:=by
   rw[List.any_eq_false]
   exact fun z x=>by rw[g z x];simp
  have k:Hid (Ending.returned (.bool false)=Ending.returned (.bool (l.any d))/\Below W.heap.size W V):=⟨by rw[j],q⟩
  clear g j;go_wp2_with fail;refine bodyPost_ret (results_tmp rfl _ _ _) rfl ?_;exact k.out
 ·have j:l.any d=true:=by
   rw[List.any_eq_true];exact f
  have k:Hid (Ending.returned (.bool true)=Ending.returned (.bool (l.any d))/\Below W.heap.size W V):=⟨by rw[j],q⟩
  clear f j
  have u:(0:Int)<=(i:Int):=by omega
  go_wp2_with fail;refine bodyPost_ret (results_tmp rfl _ _ _) rfl ?_;exact k.out
theorem qp2(args:Array Value)(w:World):(callFunc 58 args).run Tryz.prog w=.ok (.enter 58 args) w:=v8 Tryz.func58 (by kernel_rfl) (by kernel_rfl) args w
theorem qp3(args:Array Value)(w:World):(callFunc 60 args).run Tryz.prog w=.ok (.enter 60 args) w:=v8 Tryz.func60 (by kernel_rfl) (by kernel_rfl) args w
theorem qp4(args:Array Value)(w:World):(callFunc 41 args).run Tryz.prog w=.ok (.enter 41 args) w:=v8 Tryz.func41 (by kernel_rfl) (by kernel_rfl) args w
theorem qp5(args:Array Value)(w:World):(callFunc 63 args).run Tryz.prog w=.ok (.enter 63 args) w:=v8 Tryz.func63 (by kernel_rfl) (by kernel_rfl) args w
theorem qoi(W:World)(a b z:Nat)(c0:W.cell? ⟨a,0,none⟩=some (.int .i64 (b:Int))):
  Calls Tryz.prog 60 #[.int .i64 (z:Int),.pointer (some ⟨a,0,none⟩)] W fun e V=>e=.returned (.bool (decide (z<b)))/\Below W.heap.size W V:=by
 go_enter Tryz.func60,Tryz.ntmps60;go_wp2_with fail;go_ret;exact⟨by simp,Below.refl _ _⟩
theorem qoj(W:World)(k m:Nat)(q:QR)(c0:W.cell? ⟨k,0,none⟩=some (.int .i64 (m:Int)))(h:Row W 1 q.2.1 q.1.r.length q.2.2 (natC q.1.r))(s:q.1.r.length<=1000):
  Calls Tryz.prog 58 #[.agg #[.int .i64 q.1.l,.slice q.2.1 q.1.r.length q.2.2,.int .i64 q.1.lv,.int .i64 q.1.a],.pointer (some ⟨k,0,none⟩)] W fun e V=>e=.returned (.bool (q.1.r.any (fun z=>decide (z<m))))/\Below W.heap.size W V:=by
 obtain⟨⟨j,c,b,i⟩,d,f⟩:=q;simp only at h s ⊢;have n:Below W.heap.size W (W.alloc (.cells #[.int .i64 j,.slice d c.length f,.int .i64 b,.int .i64 i] 47)):=qb _ _
 have p:Hid (Calls Tryz.prog 59 #[.slice d c.length f,.func (.func 60) #[] #[.pointer (some ⟨k,0,none⟩)]] (W.alloc (.cells #[.int .i64 j,.slice d c.length f,.int .i64 b,.int .i64 i] 47)) fun e V=>e=.returned (.bool (c.any (fun z=>decide (z<m))))/\Below W.heap.size W V):=by
  refine(qdu 60 #[.pointer (some ⟨k,0,none⟩)] qp3 (fun z=>decide (z<m)) _ c d c.length f rfl (h.below n) s (fun V t z _=>?_)).mono ?_
  ·exact qoi V k m z (qj t (qj n c0))
  ·rintro e V ⟨rfl,o⟩;exact⟨rfl,qd n o⟩
 have g:(W.alloc (.cells #[.int .i64 j,.slice d c.length f,.int .i64 b,.int .i64 i] 47)).heap[W.heap.size]?=some (.cells #[.int .i64 j,.slice d c.length f,.int .i64 b,.int .i64 i] 47 (0,0)):=heap_alloc_new _ _
 have c1:(W.alloc (.cells #[.int .i64 j,.slice d c.length f,.int .i64 b,.int .i64 i] 47)).cell? ⟨W.heap.size,1,none⟩=some (.slice d c.length f):=by rw[qe g];rfl
 clear h n g c0;go_enter Tryz.func58,Tryz.ntmps58
 go_upto_region 1 with fail
 generalize W.alloc _=U at p c1 ⊢;go_wp2_with fail;refine p.out.mono ?_;rintro e V ⟨rfl,o⟩;go_wp2_with fail;go_ret;exact⟨rfl,o⟩
theorem qok(W:World)(f d b n c z:Nat)(a:Option Addr)(v0:W.cell? ⟨f,0,none⟩=some (.pointer (some ⟨d,0,none⟩)))(c0:W.cell? ⟨d,0,none⟩=some (.int .i64 (b:Int)))(c1:W.cell? ⟨d,1,none⟩=some (.slice a n c)):
  Calls Tryz.prog 63 #[.int .i64 (z:Int),.pointer (some ⟨f,0,none⟩)] W fun e V=>e=.returned (.bool (!decide (z≠b/\z<n)))/\Below W.heap.size W V:=by
 have hd:decide ((z:Int)≠(b:Int)/\0<=(z:Int)/\(z:Int)<(n:Int))=decide (z≠b/\z<n):=by
  apply decide_eq_decide.2
  constructor
  ·rintro⟨g,-,h⟩;exact⟨by omega,by omega⟩
  ·rintro⟨g,h⟩;exact⟨by omega,by omega,by omega⟩
 generalize decide (z≠b/\z<n)=i at hd ⊢;go_enter Tryz.func63,Tryz.ntmps63;go_wp2_with fail;refine(qee W d b n c a c0 c1 (z:Int)).mono ?_;rintro e w1 ⟨rfl,rfl⟩;rw[hd];clear hd;go_wp2_with fail;go_ret;exact⟨rfl,Below.refl _ _⟩
def shR (h:SHd) (g c:Nat):SHd:=⟨h.na,h.nc,h.la,h.lc,h.aa,h.ac,some ⟨g,0,none⟩,c⟩
theorem qbi{qs:List QR}{rs:List SR}(h:qs.map (·.1)=rs)(f:SR->Bool):(qs.filter (fun q=>f q.1)).map (·.1)=rs.filter f:=by
 subst h
 induction qs with
 | nil=>rfl
 | cons q qs ih =>
  rw[List.map_cons,List.filter_cons,List.filter_cons]
  split
  ·rw[List.map_cons,ih]
  ·exact ih
structure EL (w wr:World) (fb n k:Nat) (fd:List Bool):Prop where
 bel:Below w.heap.size w wr
 row:∃Ed:List Bool,Ed.length=n/\wr.ownsRow w.heap.size 4 1 (.slice (some ⟨fb,0,none⟩) n n) n (booC Ed)/\∀x,isF Ed x=if x<k then false else isF fd x
theorem EL.put{w wr:World}{a n k:Nat}{fd:List Bool}(h:EL w wr a n k fd)(l:k<n):EL w (wr.setCell ⟨a,k,none⟩ (.bool false)) a n (k+1) fd:=by
 obtain⟨g,i,d,j⟩:=h.row;refine⟨h.bel.setCell (p:=⟨a,k,none⟩) (qw d (b:=a) rfl).1 _,g.set k false,by rw[List.length_set];exact i,?_,fun x=>?_⟩
 ·rw[qdd];exact(d.stored k (.bool false)).1
 ·unfold isF;rw[List.getElem?_set]
  by_cases f:k=x
  ·subst f;rw[if_pos rfl,if_pos (by omega),if_pos (Nat.lt_succ_self k)];rfl
  ·rw[if_neg f];have:=j x;unfold isF at this;rw[this]
   by_cases c:x<k
   ·rw[if_pos c,if_pos (by omega)]
   ·rw[if_neg c,if_neg (by omega)]
theorem qi0(w:World)(h:SHd)(S:Sp)(n:Nat)(a4:n=S.tk+1+S.nt)(t:WF S)(R:IsSp w h S):
  Calls Tryz.prog 38 #[sv h S] w fun e U=>∃eb l,e=.returned (.slice (some ⟨eb,0,none⟩) n n)/\l.length=n/\U.ownsRow w.heap.size 4 1 (.slice (some ⟨eb,0,none⟩) n n) n (booC l)/\(∀x,isF l x=true↔Nul S x)/\Below w.heap.size w U:=by
 obtain⟨qs,Q,B,a5⟩:=qoh R.rl;have b4:0<S.rs.length:=(List.getElem?_eq_some_iff.1 t.hd).1
 have o:S.rs.length<=1000:=by have:=t.nr;omega
 have I:Below w.heap.size w (w.alloc (.cells (sC h S) 31)):=qb _ _;have s:(w.alloc (.cells (sC h S) 31)).heap[w.heap.size]?=some (.cells (sC h S) 31 (0,0)):=heap_alloc_new _ _
 have D:Hid (WF S/\IsSp w h S/\n=S.tk+1+S.nt):=⟨t,R,a4⟩
 have Z:Hid (qs.map (·.1)=S.rs/\∀q∈qs,Row w 1 q.2.1 q.1.r.length q.2.2 (natC q.1.r)/\q.1.r.length<=1000):=⟨Q,fun q P=>⟨a5 q P,by
  have:q.1∈S.rs:=by rw[<-Q];exact List.mem_map_of_mem P
  have:=(t.rr q.1 this).1
  omega⟩⟩
 have a9:Hid (Row w 4 h.ra S.rs.length h.rc (srC qs)):=B
 have d0:(S.tk:Int)<(n:Int):=by omega
 have c8:min (S.tk:Int) (n:Int)=(S.tk:Int):=by omega
 have c9:=ze B;have a8:S.tk<=100:=t.tk;clear t R a4 Q B a5;unfold sv;have e1:sC h S=#[.int .i64 (S.tk:Int),.int .i64 (S.nt:Int),.int .i64 (S.st:Int),.int .i64 S.ex,.slice h.na S.nm.length h.nc,.slice h.la S.lv.length h.lc,.slice h.aa S.az.length h.ac,.slice h.ra S.rs.length h.rc]:=rfl;rw[e1];go_enter Tryz.func38,Tryz.ntmps38
 go_upto_region 1 with fail
 rw[<-e1];clear e1;generalize w.alloc (.cells (sC h S) 31)=T at I s ⊢
 obtain⟨d,X⟩:∃d,Hid (d=w.heap.size):=⟨_,rfl⟩
 rw[<-X.out]at s ⊢;obtain⟨-,-,-,-,-,-,-,H⟩:=sbox s;have f7:=qi s 7
 have v:Hid (Below w.heap.size w T/\T.heap[d]?=some (.cells (sC h S) 31 (0,0))):=⟨I,s⟩
 clear I s;go_wp2_with fail;refine(qe4 T qs h.ra S.rs.length h.rc (a9.out.below v.out.1) b4 o).mono ?_;rintro e W1 ⟨g,c,rfl,A,K⟩;clear H f7;have b8:T.heap.size<=g:=(qw A (b:=g) rfl).1
 have a:Hid (Below w.heap.size w W1/\W1.heap[d]?=some (.cells (sC h S) 31 (0,0))/\W1.ownsRow T.heap.size 47 4 (.slice (some ⟨g,0,none⟩) S.rs.length c) S.rs.length (srC qs)/\d<g/\w.heap.size<=g):=⟨qd v.out.1 K,qf K v.out.2,A,by have:=(Array.getElem?_eq_some_iff.1 v.out.2).1;omega,by have:=v.out.1.size;omega⟩
 clear A K;go_wp2_with fail;refine(qh4 58 #[.pointer (some ⟨d,0,none⟩)] qp2 (fun q=>hasT S.tk q.1) W1 qs T.heap.size g S.rs.length c a.out.2.2.1 o (fun V hV q P=>?_)).mono ?_
 ·have E:V.heap[d]?=some (.cells (sC h S) 31 (0,0)):=by
   rw[hV.block d (Array.getElem?_eq_some_iff.1 a.out.2.1).1 (fun e=>by have:=a.out.2.2.2.1;omega)]
   exact a.out.2.1
  have b0:Below w.heap.size w V:=a.out.1.trans (hV.below a.out.1.size (fun k hk e=>by have:=a.out.2.2.2.2;omega))
  exact qoj V d S.tk q (sbox E).1 ((Z.out.2 q P).1.below b0) (Z.out.2 q P).2
 rintro e y ⟨m,rfl,b7,i,N⟩;have a1:Below w.heap.size w y:=a.out.1.trans (N.below a.out.1.size (fun k hk e=>by have:=a.out.2.2.2.2;omega))
 have C:y.heap[d]?=some (.cells (sC h S) 31 (0,0)):=by
  rw[N.block d (Array.getElem?_eq_some_iff.1 a.out.2.1).1 (fun e=>by have:=a.out.2.2.2.1;omega)]
  exact a.out.2.1
 have H:y.cell? ⟨d,7,none⟩=some (.slice h.ra S.rs.length h.rc):=by obtain⟨-,-,-,-,-,-,-,H⟩:=sbox C;exact H
 have f7:=qi C 7
 have f:Hid (Below w.heap.size w (y.setCell ⟨d,7,none⟩ (.slice (some ⟨g,0,none⟩) m c))/\(y.setCell ⟨d,7,none⟩ (.slice (some ⟨g,0,none⟩) m c)).heap[d]?=some (.cells (sC (shR h g c) (noT S)) 31 (0,0))/\IsSp (y.setCell ⟨d,7,none⟩ (.slice (some ⟨g,0,none⟩) m c)) (shR h g c) (noT S)/\m=(noT S).rs.length):=by
  have O:m=(noT S).rs.length:=by
   have E:(srC (qs.filter (fun q=>!hasT S.tk q.1))).length=m * 4:=i.1;rw[jq]at E
   have G:(qs.filter (fun q=>!hasT S.tk q.1)).length=(S.rs.filter (fun r=>!hasT S.tk r)).length:=by rw[<-qbi Z.out.1 (fun r=>!hasT S.tk r),List.length_map]
   have h3:m=(qs.filter (fun q=>!hasT S.tk q.1)).length:=Nat.eq_of_mul_eq_mul_right (by decide:0<4) E.symm;rw[h3];exact G
  have z:Below w.heap.size w (y.setCell ⟨d,7,none⟩ (.slice (some ⟨g,0,none⟩) m c)):=a1.setCell (p:=⟨d,7,none⟩) (by show w.heap.size<=d;rw[X.out];exact Nat.le_refl _) _
  refine⟨z,?_,⟨D.out.2.1.nm.below z,D.out.2.1.lv.below z,D.out.2.1.az.below z,qs.filter (fun q=>!hasT S.tk q.1),qbi Z.out.1 (fun r=>!hasT S.tk r),?_,fun q P=>?_⟩,O⟩
  ·rw[setCell_eq_setRow y d 7 _ 31 (0,0) _ C,O];exact setRow_heap _ _ _ _ 31 _ C
  ·rw[<-O]
   exact Row.of_own (qh i (fun j hj=>by
    cases hj
    exact Below.heap_setCell _ _ _ _ (fun e=>by have h7:=a.out.2.2.2.1;have e:g=d:=e;omega)))
  ·exact((Z.out.2 q (List.mem_filter.1 P).1).1).below z
 have HY:Hid (∀V:World,Below (y.setCell ⟨d,7,none⟩ (.slice (some ⟨g,0,none⟩) m c)).heap.size (y.setCell ⟨d,7,none⟩ (.slice (some ⟨g,0,none⟩) m c)) V->Calls Tryz.prog 61 #[.agg (sC (shR h g c) (noT S))] V fun e U=>BRes V U n (Der (noT S)) e):=fun V hV=>qb6 V (shR h g c) (noT S) n D.out.2.2 (qr8 D.out.1) (f.out.2.2.1.below hV)
 clear N a1 C i
 go_upto_region 2 with fail
 clear H f7;generalize y.setCell ⟨d,7,none⟩ (.slice (some ⟨g,0,none⟩) m c)=W3 at f HY ⊢;obtain⟨c0,c1,c2,c3,c4,c5,c6,H⟩:=sbox f.out.2.1;have a0:Hid (Calls Tryz.prog 61 #[.agg #[.int .i64 ((noT S).tk:Int),.int .i64 ((noT S).nt:Int),.int .i64 ((noT S).st:Int),.int .i64 (noT S).ex,.slice (shR h g c).na (noT S).nm.length (shR h g c).nc,.slice (shR h g c).la (noT S).lv.length (shR h g c).lc,.slice (shR h g c).aa (noT S).az.length (shR h g c).ac,.slice (shR h g c).ra (noT S).rs.length (shR h g c).rc]] W3 fun e U=>BRes W3 U n (Der (noT S)) e):=HY.out W3 (Below.refl _ _);go_wp2_with fail;refine a0.out.mono ?_;rintro e W4 ⟨F,fd,rfl,M,a2,a7,L⟩;clear c0 c1 c2 c3 c4 c5 c6 H a0;have a6:=qf L f.out.2.1;have c0:W4.cell? ⟨d,0,none⟩=some (.int .i64 (S.tk:Int)):=(sbox a6).1
 have HE:Hid (EL w W4 F n 0 fd):=⟨qd f.out.1 L,fd,M,zd a2 f.out.1.size,fun x=>by rw[if_neg (Nat.not_lt_zero x)]⟩
 have HT:Hid (ko (Der (noT S)) fd/\fd.length=n):=⟨a7,M⟩
 clear a6 M a2 a7 L f HY
 go_upto_block 0 with fail
 clear c0
 go_cut [18] (fun s18 wd=>Hid (EL w wd F n S.tk fd))
 case first =>
  go_wp2_with fail
  go_loopg [18] S.tk (fun kx s18 wr=>∃k:Nat,s18=.int .i64 k/\k<=S.tk/\S.tk - k<=kx/\Hid (EL w wr F n k fd))
  case atStart=>exact⟨0,rfl,Nat.zero_le _,by omega,HE⟩
  case round =>
   clear HE;obtain⟨k,rfl,hk,hg,J⟩:=hrel
   by_cases b9:k<S.tk
   ·have a3:(k:Int)<(S.tk:Int):=by omega
    have b2:k<n:=by omega
    have b6:(k:Int)<(n:Int):=by omega
    obtain⟨l,E,G,-⟩:=J.out.row
    obtain⟨u,cu⟩:∃u,wr.cell? ⟨F,k,none⟩=some u:=by
     have hl:=G.1
     have b3:k<(booC l).length:=by omega
     exact⟨(booC l)[k],by rw[G.cellAt k (by omega)];exact List.getElem?_eq_getElem b3⟩
    have fu:=G.frozenAt k;have Y:Hid (EL w (wr.setCell ⟨F,k,none⟩ (.bool false)) F n (k+1) fd):=J.out.put b2;clear J E G;go_wp2_with fail;go_roundg (S.tk - (k+1))
    case measure=>omega
    case rel=>exact⟨k+1,by simp,by omega,Nat.le_refl _,Y⟩
   ·have a3:¬(k:Int)<(S.tk:Int):=by omega
    have Y:Hid (EL w wr F n S.tk fd):=by
     have:k=S.tk:=by omega
     subst this;exact J.out
    clear J;go_wp2_with fail;go_meet;exact Y
 case rest =>
  obtain⟨w8,d1⟩:∃w8,w8=wc:=⟨_,rfl⟩
  subst wc
  have Y:Hid (∃l,(l:List Bool).length=n/\w8.ownsRow w.heap.size 4 1 (.slice (some ⟨F,0,none⟩) n n) n (booC l)/\(∀x,isF l x=true↔Nul S x)/\Below w.heap.size w w8):=by
   obtain⟨l,E,G,h3⟩:=hcut.out.row;refine⟨l,E,G,fun x=>?_,hcut.out.bel⟩;rw[h3 x]
   by_cases hx:x<S.tk
   ·rw[if_pos hx];exact⟨fun e=>(by cases e),fun e=>by have:=(ql1 D.out.1 e).1;omega⟩
   ·rw[if_neg hx,<-ql6 D.out.1 (by omega)]
    constructor
    ·intro hf;exact(HT.out.1 x true (by rw[vm (qjk hf),hf])).1 rfl
    ·intro hd
     have b5:x<fd.length:=by
      have:=(ql1 D.out.1 ((ql6 D.out.1 (by omega)).1 hd)).2;rw[HT.out.2,D.out.2.2];exact this
     have:=(HT.out.1 x (isF fd x) (vm b5)).2 hd;exact this
  clear hcut HE;go_wp2_with fail;go_ret;obtain⟨l,E⟩:=Y.out;exact⟨F,l,rfl,E⟩
theorem qlf(W:World)(c k n m:Nat)(a:Option Addr)(c0:W.cell? ⟨c,0,none⟩=some (.int .i64 (k:Int)))(c1:W.cell? ⟨c,1,none⟩=some (.slice a n m))(q:QR)(h:Row W 1 q.2.1 q.1.r.length q.2.2 (natC q.1.r))(F:q.1.r.length<=1000)(p:∀y∈q.1.r,y≠k/\y<n):
  Calls Tryz.prog 42 #[.pointer (some ⟨c,0,none⟩),.agg #[.int .i64 q.1.l,.slice q.2.1 q.1.r.length q.2.2,.int .i64 q.1.lv,.int .i64 q.1.a]] W fun e V=>e=.returned (.bool (okL k n q.1))/\Below W.heap.size W V:=by
 obtain⟨⟨d,f,b,j⟩,g,i⟩:=q;simp only at h F p ⊢;have o:Below W.heap.size W ((W.alloc (.cells #[.pointer (some ⟨c,0,none⟩)] 44)).alloc (.cells #[.int .i64 d,.slice g f.length i,.int .i64 b,.int .i64 j] 47)):=qd (qb _ _) (qb _ _);have u:(W.alloc (.cells #[.pointer (some ⟨c,0,none⟩)] 44)).heap.size=W.heap.size+1:=qt _ _;have v:((W.alloc (.cells #[.pointer (some ⟨c,0,none⟩)] 44)).alloc (.cells #[.int .i64 d,.slice g f.length i,.int .i64 b,.int .i64 j] 47)).heap[W.heap.size]?=some (.cells #[.pointer (some ⟨c,0,none⟩)] 44 (0,0)):=qf (qb _ _) (heap_alloc_new _ _)
 have C:((W.alloc (.cells #[.pointer (some ⟨c,0,none⟩)] 44)).alloc (.cells #[.int .i64 d,.slice g f.length i,.int .i64 b,.int .i64 j] 47)).heap[W.heap.size+1]?=some (.cells #[.int .i64 d,.slice g f.length i,.int .i64 b,.int .i64 j] 47 (0,0)):=by
  have:=heap_alloc_new (W.alloc (.cells #[.pointer (some ⟨c,0,none⟩)] 44)) (.cells #[.int .i64 d,.slice g f.length i,.int .i64 b,.int .i64 j] 47);rw[u]at this;exact this
 have x:Hid (Below W.heap.size W ((W.alloc (.cells #[.pointer (some ⟨c,0,none⟩)] 44)).alloc (.cells #[.int .i64 d,.slice g f.length i,.int .i64 b,.int .i64 j] 47))):=o
 have D:Hid (f.any (fun z=>!decide (z≠k/\z<n))=false):=by
  show _=false;rw[List.any_eq_false];intro y I;have:=p y I;simp[this]
 have e0:=qj o c0;have s:=qj o c1
 have A:Hid (Calls Tryz.prog 59 #[.slice g f.length i,.func (.func 63) #[] #[.pointer (some ⟨W.heap.size,0,none⟩)]] ((W.alloc (.cells #[.pointer (some ⟨c,0,none⟩)] 44)).alloc (.cells #[.int .i64 d,.slice g f.length i,.int .i64 b,.int .i64 j] 47)) fun e V=>e=.returned (.bool false)/\Below W.heap.size W V):=by
  refine(qdu 63 #[.pointer (some ⟨W.heap.size,0,none⟩)] qp5 (fun z=>!decide (z≠k/\z<n)) _ f g f.length i rfl (h.below o) F (fun V B z _=>?_)).mono ?_
  ·exact qok V W.heap.size c k n m z a (by rw[qe (qf B v)];rfl) (qj B e0) (qj B s)
  ·rintro e V ⟨rfl,v⟩;rw[D.out];exact⟨rfl,qd o v⟩
 have E:((W.alloc (.cells #[.pointer (some ⟨c,0,none⟩)] 44)).alloc (.cells #[.int .i64 d,.slice g f.length i,.int .i64 b,.int .i64 j] 47)).cell? ⟨W.heap.size,0,none⟩=some (.pointer (some ⟨c,0,none⟩)):=by rw[qe v];rfl
 have G:((W.alloc (.cells #[.pointer (some ⟨c,0,none⟩)] 44)).alloc (.cells #[.int .i64 d,.slice g f.length i,.int .i64 b,.int .i64 j] 47)).cell? ⟨W.heap.size+1,0,none⟩=some (.int .i64 d):=by rw[qe C];rfl
 have H:((W.alloc (.cells #[.pointer (some ⟨c,0,none⟩)] 44)).alloc (.cells #[.int .i64 d,.slice g f.length i,.int .i64 b,.int .i64 j] 47)).cell? ⟨W.heap.size+1,1,none⟩=some (.slice g f.length i):=by rw[qe C];rfl
 have t:okL k n ⟨d,f,b,j⟩=decide ((k:Int)<d/\d<(n:Int)):=rfl;rw[t];clear t h p o u v C c0 c1 D
 cases hd:decide ((k:Int)<d/\d<(n:Int))
 ·go_enter Tryz.func42,Tryz.ntmps42
  go_upto_region 1 with fail
  generalize ((W.alloc (.cells #[.pointer (some ⟨c,0,none⟩)] 44)).alloc (.cells #[.int .i64 d,.slice g f.length i,.int .i64 b,.int .i64 j] 47))=U at A x e0 s E G H ⊢;go_wp2_with fail;refine(jt U c k n m a e0 s d).mono ?_;rintro e w1 ⟨rfl,rfl⟩;rw[hd];clear hd;go_wp2_with fail;go_ret;exact⟨rfl,x.out⟩
 ·go_enter Tryz.func42,Tryz.ntmps42
  go_upto_region 1 with fail
  generalize ((W.alloc (.cells #[.pointer (some ⟨c,0,none⟩)] 44)).alloc (.cells #[.int .i64 d,.slice g f.length i,.int .i64 b,.int .i64 j] 47))=U at A x e0 s E G H ⊢;go_wp2_with fail;refine(jt U c k n m a e0 s d).mono ?_;rintro e w1 ⟨rfl,rfl⟩;rw[hd];clear hd;go_wp2_with fail;refine A.out.mono ?_;rintro e w2 ⟨rfl,o⟩;go_wp2_with fail;go_ret;exact⟨rfl,o⟩
theorem qol(W:World)(o f c n d:Nat)(a:Option Addr)(v0:W.cell? ⟨o,0,none⟩=some (.pointer (some ⟨f,0,none⟩)))(c0:W.cell? ⟨f,0,none⟩=some (.int .i64 (c:Int)))(c1:W.cell? ⟨f,1,none⟩=some (.slice a n d))(q:QR)(h:Row W 1 q.2.1 q.1.r.length q.2.2 (natC q.1.r))(v:q.1.r.length<=1000)(i:∀y∈q.1.r,y≠c/\y<n):
  Calls Tryz.prog 41 #[.agg #[.int .i64 q.1.l,.slice q.2.1 q.1.r.length q.2.2,.int .i64 q.1.lv,.int .i64 q.1.a],.pointer (some ⟨o,0,none⟩)] W fun e V=>e=.returned (.bool (!okL c n q.1))/\Below W.heap.size W V:=by
 have b:Below W.heap.size W (W.alloc (.cells #[.int .i64 q.1.l,.slice q.2.1 q.1.r.length q.2.2,.int .i64 q.1.lv,.int .i64 q.1.a] 47)):=qb _ _;have g:(W.alloc (.cells #[.int .i64 q.1.l,.slice q.2.1 q.1.r.length q.2.2,.int .i64 q.1.lv,.int .i64 q.1.a] 47)).heap[W.heap.size]?=some (.cells #[.int .i64 q.1.l,.slice q.2.1 q.1.r.length q.2.2,.int .i64 q.1.lv,.int .i64 q.1.a] 47 (0,0)):=heap_alloc_new _ _
 have j:Hid (Calls Tryz.prog 42 #[.pointer (some ⟨f,0,none⟩),.agg #[.int .i64 q.1.l,.slice q.2.1 q.1.r.length q.2.2,.int .i64 q.1.lv,.int .i64 q.1.a]] (W.alloc (.cells #[.int .i64 q.1.l,.slice q.2.1 q.1.r.length q.2.2,.int .i64 q.1.lv,.int .i64 q.1.a] 47)) fun e V=>e=.returned (.bool (okL c n q.1))/\Below W.heap.size W V):=by
  refine(qlf _ f c n d a (qj b c0) (qj b c1) q (h.below b) v i).mono ?_;rintro e V ⟨rfl,x⟩;exact⟨rfl,qd b x⟩
 have m:=qj b v0
 have p:(W.alloc (.cells #[.int .i64 q.1.l,.slice q.2.1 q.1.r.length q.2.2,.int .i64 q.1.lv,.int .i64 q.1.a] 47)).cell? ⟨W.heap.size,0,none⟩=some (.int .i64 q.1.l):=by rw[qe g];rfl
 have s:(W.alloc (.cells #[.int .i64 q.1.l,.slice q.2.1 q.1.r.length q.2.2,.int .i64 q.1.lv,.int .i64 q.1.a] 47)).cell? ⟨W.heap.size,1,none⟩=some (.slice q.2.1 q.1.r.length q.2.2):=by rw[qe g];rfl
 have t:(W.alloc (.cells #[.int .i64 q.1.l,.slice q.2.1 q.1.r.length q.2.2,.int .i64 q.1.lv,.int .i64 q.1.a] 47)).cell? ⟨W.heap.size,2,none⟩=some (.int .i64 q.1.lv):=by rw[qe g];rfl
 have u:(W.alloc (.cells #[.int .i64 q.1.l,.slice q.2.1 q.1.r.length q.2.2,.int .i64 q.1.lv,.int .i64 q.1.a] 47)).cell? ⟨W.heap.size,3,none⟩=some (.int .i64 q.1.a):=by rw[qe g];rfl
 generalize okL c n q.1=E at j ⊢;clear b g h i c0 c1 v0;obtain⟨⟨C,D,k,B⟩,z,A⟩:=q
 simp only at *
 go_enter Tryz.func41,Tryz.ntmps41
 go_upto_region 1 with fail
 generalize W.alloc (.cells #[.int .i64 C,.slice z D.length A,.int .i64 k,.int .i64 B] 47)=U at j m p s t u ⊢;go_wp2_with fail;refine j.out.mono ?_;rintro e w2 ⟨rfl,b⟩;go_wp2_with fail;go_ret;exact⟨rfl,b⟩
end Go.Proofs.YtngclmglmhiljaaGreatDoor
