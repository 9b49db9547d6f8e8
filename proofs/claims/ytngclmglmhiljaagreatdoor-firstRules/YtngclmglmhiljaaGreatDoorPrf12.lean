/- Texts that the proofs of the First statements stand on, part Prf12. -/
import Derived.Test.YtngclmglmhiljaaGreatDoorPrf11
set_option maxHeartbeats 16000000
set_option maxRecDepth 100000
namespace Go.Proofs.YtngclmglmhiljaaGreatDoor
open Go.RowKit
def bX:ByteArray:=⟨#[120]⟩
def qa5:Gm:=⟨qu.ts,qu.s,qu.e,qu.rs++[⟨bX,[bX],e0⟩]⟩
def qje:Gm:=⟨[],e0,0,[]⟩
theorem vt:lfs qu.rs=[bE]:=by kernel_rfl
theorem qbc:lfs qa5.rs=[bE,bX]:=by kernel_rfl
theorem xy:spG qu=⟨3,1,4,0,nmG qu,[0,1,2],[0,1,1],[⟨-1,[4],0,0⟩,⟨4,[4,1,4],1,1⟩,⟨4,[4,2,4],2,1⟩,⟨4,[0],0,0⟩]⟩:=by kernel_rfl
theorem qfw:spG qa5=⟨3,2,4,0,nmG qa5,[0,1,2],[0,1,1],[⟨-1,[4],0,0⟩,⟨4,[4,1,4],1,1⟩,⟨4,[4,2,4],2,1⟩,⟨4,[0],0,0⟩,⟨5,[5],0,0⟩]⟩:=by kernel_rfl
theorem qaw{a b:ByteArray}(h:(a.data.toList == b.data.toList)=false):a≠b:=by
 rintro rfl;simp at h
theorem qc4:NmP qu:=by
 have f:bN≠bE:=qaw (by kernel_rfl);have g:bP≠bE:=qaw (by kernel_rfl);have h:bM≠bE:=qaw (by kernel_rfl);refine⟨by simp[qu],?_,?_,?_,?_⟩
 ·intro t d a;rw[vt]at a;simp only[qu,List.mem_cons,List.not_mem_nil,or_false]at d a
  rcases d with rfl | rfl | rfl
  ·exact f a
  ·exact g a
  ·exact h a
 ·intro r b;simp only[qu,List.mem_cons,List.not_mem_nil,or_false]at b
  rcases b with rfl | rfl | rfl <;> exact .inl rfl
 ·intro r b x c;rw[vt];simp only[qu,List.mem_cons,List.not_mem_nil,or_false]at b
  rcases b with rfl | rfl | rfl
  all_goals
   simp only[List.mem_cons,List.not_mem_nil,or_false]at c;simp only[qu,tkG,List.map_cons,List.map_nil,List.mem_cons,List.not_mem_nil,or_false]
  ·rcases c with rfl | rfl | rfl
   ·exact .inr rfl
   ·exact .inl (.inr (.inl rfl))
   ·exact .inr rfl
  ·rcases c with rfl | rfl | rfl
   ·exact .inr rfl
   ·exact .inl (.inr (.inr rfl))
   ·exact .inr rfl
  ·exact .inl (.inl c)
 ·rw[vt];show bE∈[bE];simp
theorem qdl:¬kz qu:=by
 rintro(h | h | h | ⟨r,a,h⟩)
 ·exact absurd h (by decide)
 ·exact absurd h (by decide)
 ·rw[vt]at h;exact absurd h (by decide)
 ·simp only[qu,List.mem_cons,List.not_mem_nil,or_false]at a
  rcases a with rfl | rfl | rfl <;> exact absurd h (by decide)
theorem qic:Der (spG qu) 4:=by
 rw[xy];refine Der.rule 3 ⟨4,[0],0,0⟩ 4 (by omega) rfl rfl (fun y a=>?_);simp only[List.mem_cons,List.not_mem_nil,or_false]at a;subst a;exact Der.tok 0 (by show 0<3;omega)
theorem qop:¬Der (spG qu) 3:=by
 rw[xy];intro h;refine h (fun x=>x≠3) (fun x d=>?_) (fun i r x c a b f=>?_) rfl
 ·have:x<3:=d;omega
 ·match i,c,a with
  | 1,_,a=>cases a;simp at b;omega
  | 2,_,a=>cases a;simp at b;omega
  | 3,_,a=>cases a;simp at b;omega
  | n+4,_,a=>simp at a
theorem qqe:¬yd (spG qu):=by
 rintro⟨x,f,g,a⟩
 have c:(spG qu).tk=3:=by rw[xy]
 have d:(spG qu).nt=1:=by rw[xy]
 have:x=4:=by omega
 subst this
 rcases a with a | a
 ·exact a qic
 ·refine a ?_
  have b:(spG qu).st=4:=by rw[xy]
  have:=Rch.start (S:=spG qu)
  rwa [b]at this
theorem qhr:OfR qu 0:=.inr (.inr (.inr (.inr ⟨rfl,qb4,qdl,qc4,qqe⟩)))
theorem qoq:MayP qa5:=by
 have h:=qb4
 have b:zp bX:=by unfold zp;kernel_rfl
 refine⟨by decide,by decide,h.e0,h.e1,h.st,h.tk,fun r a=>?_⟩
 rcases List.mem_append.1 a with a | a
 ·exact h.rl r a
 ·rw[List.mem_singleton]at a;subst a;refine⟨b,by decide,.inl rfl,fun x c=>?_⟩;rw[List.mem_singleton]at c;subst c;exact b
theorem qqf:OfR qa5 8:=by
 refine .inr (.inr (.inr (.inl ⟨rfl,qoq,?_,?_,?_⟩)))
 ·rintro(h | h | h | ⟨r,a,h⟩)
  ·exact absurd h (by decide)
  ·exact absurd h (by decide)
  ·rw[qbc]at h;exact absurd h (by decide)
  ·rcases List.mem_append.1 a with a | a
   ·exact qdl (.inr (.inr (.inr ⟨r,a,h⟩)))
   ·rw[List.mem_singleton]at a;subst a;exact absurd h (by decide)
 ·have f:∀x,x∈lfs qu.rs->x∈lfs qa5.rs:=fun x b=>by
   rw[vt]at b;rw[qbc];exact List.mem_append_left [bX] b
  have j:bN≠bX:=qaw (by kernel_rfl);have k:bP≠bX:=qaw (by kernel_rfl);have l:bM≠bX:=qaw (by kernel_rfl);refine⟨by simp[qa5,qu],?_,?_,?_,?_⟩
  ·intro t m b;have c:t∈qu.ts:=m;rw[qbc]at b
   rcases List.mem_cons.1 b with b | b
   ·exact qc4.tk t c (by rw[vt,b];simp)
   ·rw[List.mem_singleton]at b;simp only[qu,List.mem_cons,List.not_mem_nil,or_false]at c
    rcases c with rfl | rfl | rfl
    ·exact j b
    ·exact k b
    ·exact l b
  ·intro r a
   rcases List.mem_append.1 a with a | a
   ·exact qc4.pr r a
   ·rw[List.mem_singleton]at a;subst a;exact .inl rfl
  ·intro r a x b
   rcases List.mem_append.1 a with a | a
   ·rcases qc4.rr r a x b with h | h
    ·exact .inl h
    ·exact .inr (f x h)
   ·rw[List.mem_singleton]at a;subst a;rw[List.mem_singleton]at b;subst b;right;rw[qbc];simp
  ·rw[qbc];show bE∈[bE,bX];simp
 ·refine⟨5,by rw[qfw];show 3<5;omega,by rw[qfw];show 5<3+1+2;omega,.inr ?_⟩
  rw[qfw];intro h;refine h (fun x=>x≠5) (by show(4:Nat)≠5;omega) (fun i r x y g a f b d=>?_) rfl
  match i,g,a with
  | 1,_,a=>cases a;simp only[List.mem_cons,List.not_mem_nil,or_false]at d;rcases d with rfl | rfl | rfl <;> omega
  | 2,_,a=>cases a;simp only[List.mem_cons,List.not_mem_nil,or_false]at d;rcases d with rfl | rfl | rfl <;> omega
  | 3,_,a=>cases a;simp only[List.mem_cons,List.not_mem_nil,or_false]at d;subst d;omega
  | 4,_,a=>cases a;simp at f;omega
  | n+5,_,a=>simp at a
theorem qqg:MayP qje:=by
 refine⟨by decide,by decide,by decide,by decide,.inl rfl,⟨fun i t h=>(by cases h),jl,rfl,?_⟩,fun r h=>(by cases h)⟩;intro k c b a
 match k,b,a with
 | 0,_,_=>omega
 | 1,_,a=>exact absurd rfl a
 | 2,_,a=>exact absurd rfl a
 | 3,_,a=>exact absurd rfl a
 | 4,_,a=>exact absurd rfl a
 | 5,_,a=>exact absurd rfl a
 | 6,_,a=>exact absurd rfl a
 | 7,_,a=>exact absurd rfl a
 | 8,_,a=>exact absurd rfl a
theorem qrq:OfR qje 7:=by
 refine .inr (.inr (.inl ⟨rfl,qqg,?_,fun h=>h.ne rfl⟩));rintro(h | h | h | ⟨r,a,h⟩)
 ·exact absurd h (by decide)
 ·exact absurd h (by decide)
 ·exact absurd h (by decide)
 ·cases a
theorem qqh{G:Gm}(h:OfR G 0):MayP G/\¬kz G/\NmP G/\¬yd (spG G):=by
 rcases h with e | e | e | e | e
 ·omega
 ·omega
 ·omega
 ·omega
 ·exact e.2
theorem qqi{G:Gm}(h:¬kz G):G.ts.length<=12/\G.rs.length<=30/\(lfs G.rs).length<=10/\∀r∈G.rs,r.r.length<=6:=by
 refine⟨?_,?_,?_,fun r a=>?_⟩
 ·exact Classical.byContradiction fun e=>h (.inl (by omega))
 ·exact Classical.byContradiction fun e=>h (.inr (.inl (by omega)))
 ·exact Classical.byContradiction fun e=>h (.inr (.inr (.inl (by omega))))
 ·exact Classical.byContradiction fun e=>h (.inr (.inr (.inr ⟨r,a,by omega⟩)))
theorem qqy{G:Gm}(h:OfR G 0):NSp (spG G) (G.ts.length+1+(lfs G.rs).length):=by
 obtain⟨j,i,g,n⟩:=qqh h;obtain⟨s,t,u,k⟩:=qqi i;have c:=qei j i g
 have a:∀r∈(spG G).rs,r=⟨-1,[stG G],0,0⟩\/∃q∈G.rs,r=ruG G q:=fun r b=>by
  have b:r∈(⟨-1,[stG G],0,0⟩ :: G.rs.map (ruG G)):=b
  rcases List.mem_cons.1 b with e | e
  ·exact .inl e
  ·obtain⟨q,f,e⟩:=List.mem_map.1 e;exact .inr ⟨q,f,e.symm⟩
 refine⟨c,rfl,fun r b y d=>⟨(c.rr r b).2 y d,?_⟩,fun x l m=>Classical.byContradiction fun e=>n ⟨x,l,m,.inr e⟩,?_,fun r b=>?_⟩
 ·have e0:(spG G).tk=G.ts.length:=rfl;rw[e0]
  rcases a r b with rfl | ⟨q,f,rfl⟩
  ·simp only[List.mem_singleton]at d;subst d;have:=c.st.1;have p:(spG G).st=stG G:=rfl;omega
  ·have d:y∈q.r.map (ix (nmG G)):=d;obtain⟨x,o,rfl⟩:=List.mem_map.1 d
   rcases g.rr q f x o with e | e
   ·have:=qp9 (G:=G) e;unfold ix;rw[this.1];simp only[Option.getD_some];omega
   ·have:=qeh j g e;unfold ix;rw[this];simp only[Option.getD_some];unfold ix;omega
 ·show(_ :: G.rs.map (ruG G)).length<=40;rw[List.length_cons,List.length_map];omega
 ·rcases a r b with rfl | ⟨q,f,rfl⟩
  ·show 1<=20;omega
  ·have:=k q f;show(q.r.map (ix (nmG G))).length<=20;rw[List.length_map];omega
theorem qcn{i:Nat}{r:SR}(b:0<i)(a:(spG qu).rs[i]?=some r):r.l=4/\(r.r=[4,1,4]\/r.r=[4,2,4]\/r.r=[0]):=by
 rw[xy]at a
 match i,b,a with
 | 1,_,a=>cases a;exact⟨rfl,.inl rfl⟩
 | 2,_,a=>cases a;exact⟨rfl,.inr (.inl rfl)⟩
 | 3,_,a=>cases a;exact⟨rfl,.inr (.inr rfl)⟩
 | n+4,_,a=>simp at a
theorem ve:(spG qu).tk=3/\(spG qu).nt=1/\(spG qu).st=4:=by rw[xy];exact⟨rfl,rfl,rfl⟩
theorem qdm(x:Nat):¬Nul (spG qu) x:=fun h=>h (fun _=>False) (fun i r x b c _ a=>by
 obtain⟨-,e | e | e⟩:=qcn b c <;> rw[e]at a
 ·exact a 4 (by simp)
 ·exact a 4 (by simp)
 ·exact a 0 (by simp))
theorem qax{x t:Nat}:FstP (spG qu) x t↔(x<3/\t=x)\/(x=4/\t=0):=by
 constructor
 ·intro h;refine h (fun x t=>(x<3/\t=x)\/(x=4/\t=0)) (fun x d=>.inl ⟨by rw[ve.1]at d;exact d,rfl⟩) (fun i r x y a u v g m l b n c=>?_)
  obtain⟨k,f⟩:=qcn g m
  have d:x=4:=by rw[k]at l;omega
  refine .inr ⟨d,?_⟩
  cases u with
  | cons z u=>exact absurd (n z (by simp)) (qdm z)
  | nil =>
   rcases f with e | e | e
   ·rw[e]at b;cases b;simp at c;exact c
   ·rw[e]at b;cases b;simp at c;exact c
   ·rw[e]at b;cases b;simp at c;exact c
 ·rintro(⟨j,rfl⟩ | ⟨rfl,rfl⟩)
  ·exact FstP.tok _ (by rw[ve.1];exact j)
  ·exact FstP.rule 3 ⟨4,[0],0,0⟩ 4 0 0 [] [] (by omega) (by rw[xy];rfl) rfl rfl (fun z o=>by cases o) (FstP.tok 0 (by rw[ve.1];omega))
theorem qbd{x t:Nat}{l:List Nat}:FstL (spG qu) (x :: l) t↔FstP (spG qu) x t:=by
 rw[qba];exact⟨fun h=>h.elim id (fun h=>absurd h.1 (qdm x)),.inl⟩
theorem qqj{t:Nat}:FolP (spG qu) 4 t↔t=1\/t=2\/t=3:=by
 constructor
 ·intro h;have j:=h (fun x t=>x=4->(t=1\/t=2\/t=3)) (fun _=>by rw[ve.1];omega) (fun i r x y a u v d f k b l c _=>?_) (fun i r x y a u v d f k b l p c _=>?_)
  ·exact j rfl
  ·obtain⟨-,g⟩:=qcn d f;rw[ve.1]at l
   rcases g with e | e | e
   ·rw[e]at b
    match u,b with
    | [],b=>cases b;rw[qbd,qax]at c;omega
    | [_],b=>cases b;omega
    | [_,_],b=>cases b;exact absurd c qc9
    | _ :: _ :: _ :: u,b=>cases u <;> cases b
   ·rw[e]at b
    match u,b with
    | [],b=>cases b;rw[qbd,qax]at c;omega
    | [_],b=>cases b;omega
    | [_,_],b=>cases b;exact absurd c qc9
    | _ :: _ :: _ :: u,b=>cases u <;> cases b
   ·rw[e]at b
    match u,b with
    | [],b=>cases b;omega
    | _ :: u,b=>cases u <;> cases b
  ·refine c ?_;obtain⟨o,-⟩:=qcn d f;rw[o]at k;omega
 ·have m:(spG qu).rs[1]?=some ⟨4,[4,1,4],1,1⟩:=by rw[xy];rfl
  have n:(spG qu).rs[2]?=some ⟨4,[4,2,4],2,1⟩:=by rw[xy];rfl
  rintro(rfl | rfl | rfl)
  ·exact FolP.first 1 _ 4 4 1 [] [1,4] (by omega) m rfl rfl (by rw[ve.1];omega) (by rw[qbd,qax];omega)
  ·exact FolP.first 2 _ 4 4 2 [] [2,4] (by omega) n rfl rfl (by rw[ve.1];omega) (by rw[qbd,qax];omega)
  ·have:=FolP.start (S:=spG qu);rw[ve.1,ve.2.2]at this;exact this
theorem qdn{m:Nat}{Q:Nat->Prop}(b:Nat->Bool)(h:∀t,t<m->(b t=true↔Q t)):IsL m Q ((List.range m).filter b):=⟨b,h,rfl⟩
theorem Told.up{w v b:World}{m:Nat}{Q:Nat->Prop}{e:Ending}(a:Below w.heap.size w v)(h:Told v b m Q e):Told w b m Q e:=by
 obtain⟨l,i,j,c,d,f,g⟩:=h;exact⟨l,i,j,c,d,zd f a.size,qd a g⟩
theorem qrr(W:World)(x:Int):Row (W.alloc (.cells #[.int .i64 x] 3)) 1 (some ⟨W.heap.size,0,none⟩) 1 1 [.int .i64 x]:=by
 refine⟨rfl,Nat.le_refl _,by unfold maxLen;omega,.inr ⟨_,_,rfl,fun j u a=>?_⟩⟩
 have h:(W.alloc (.cells #[.int .i64 x] 3)).heap[W.heap.size]?=some (.cells #[.int .i64 x] 3 (0,0)):=heap_alloc_new _ _;rw[Nat.zero_add,qe h]
 match j,a with
 | 0,a=>cases a;rfl
theorem qgt(W:World)(B c n:Nat)(p:FP)(E:List Bool)(S:Sp)(i:List (List Nat))(h:FS W B c p n S E i)(x:Nat)(q:x<n)(g:x≠S.tk):
  Calls Tryz.prog 20 #[.pointer (some ⟨c,0,none⟩),.int .i64 (x:Int)] W fun e a=>Told W a (S.tk+1) (FstP S x) e:=by
 have f:Below W.heap.size W (W.alloc (.cells #[.int .i64 (x:Int)] 3)):=qb _ _
 have k:Hid (Calls Tryz.prog 19 #[.pointer (some ⟨c,0,none⟩),.slice (some ⟨W.heap.size,0,none⟩) 1 1,.int .i64 (-1)] (W.alloc (.cells #[.int .i64 (x:Int)] 3)) fun e a=>Told (W.alloc (.cells #[.int .i64 (x:Int)] 3)) a (S.tk+1) (fun t=>FstL S [x] t\/((∀z∈[x],Nul S z)/\(t:Int)=-1)) e) :=
  qck _ B c n p E S i (h.below f) [x] _ 1 1 rfl (by omega) (qrr W (x:Int)) (fun z j=>by rw[List.mem_singleton]at j;subst j;exact⟨q,g⟩) (-1) (.inl rfl)
 have o:Hid (∀e a,Told (W.alloc (.cells #[.int .i64 (x:Int)] 3)) a (S.tk+1) (fun t=>FstL S [x] t\/((∀z∈[x],Nul S z)/\(t:Int)=-1)) e->Told W a (S.tk+1) (FstP S x) e):=fun e a d=>(d.up f).congr (fun t _=>by
  rw[qba]
  constructor
  ·rintro((b | ⟨-,b⟩) | ⟨-,b⟩)
   ·exact b
   ·exact absurd b qc9
   ·omega
  ·exact fun b=>.inl (.inl b))
 clear h f;go_enter Tryz.func20,Tryz.ntmps20;go_wp2_with fail;refine k.out.mono ?_;rintro e a d;have m:Hid (Told W a (S.tk+1) (FstP S x) e):=o.out e a d;obtain⟨l,r,s,rfl,-⟩:=d;go_wp2_with fail;go_ret;exact m.out
theorem qdx(W:World)(B b n:Nat)(p:FP)(E:List Bool)(S:Sp)(i:List (List Nat))(h:FS W B b p n S E i)(x:Nat)(r:x<n)(K:S.tk<x):
  Calls Tryz.prog 21 #[.pointer (some ⟨b,0,none⟩),.int .i64 (x:Int)] W fun e c=>Told W c (S.tk+1) (FolP S x) e:=by
 have C:=h.fm.c0;have j:=h.fm.c1
 have f:n<=1000:=by have:=h.nn;have:=h.wf.tk;have:=h.wf.nt;omega
 have d:Below W.heap.size W (W.alloc (.cells #[.int .i64 ((n+x:Nat):Int)] 3)):=qb _ _;have q:(W.alloc (.cells #[.int .i64 ((n+x:Nat):Int)] 3)).heap[W.heap.size]?=some (.cells #[.int .i64 ((n+x:Nat):Int)] 3 (0,0)):=heap_alloc_new _ _
 have hd:decide ((S.tk:Int)<(x:Int)/\(x:Int)<(n:Int))=true:=by rw[decide_eq_true_eq];omega
 have z:Hid (Calls Tryz.prog 50 #[.pointer (some ⟨b,0,none⟩),.slice (some ⟨W.heap.size,0,none⟩) 1 1] (W.alloc (.cells #[.int .i64 ((n+x:Nat):Int)] 3)) fun e c=>Told W c (S.tk+1) (FolP S x) e):=by
  have J:(W.alloc (.cells #[.int .i64 ((n+x:Nat):Int)] 3)).ownsRow W.heap.size 3 1 (.slice (some ⟨W.heap.size,0,none⟩) 1 1) 1 (natC [n+x]):=⟨rfl,.inr ⟨W.heap.size,1,#[.int .i64 ((n+x:Nat):Int)],rfl,Nat.le_refl _,q,Nat.le_refl _,by unfold maxLen;omega,rfl,rfl⟩⟩
  refine(qef _ B b n S.tk W.heap.size p E i (h.fm.below d) h.ways.ins (fun k I=>(h.fm.lt I).2.1) d.size [n+x] _ 1 1 rfl J (fun y s=>by rw[List.mem_singleton]at s;subst s;have:=h.ways.len;omega) h.wl (by have:=h.tt;omega) (by have:=h.ways.len;have:=h.nn;omega)).mono ?_
  rintro e c ⟨l,u,v,D,F,G,H⟩;refine⟨l,u,v,D,F.congr (fun t M=>?_),G,d.trans H⟩;rw[<-h.ways.got_fol r (by omega:t<=S.tk) (by omega) h.sy]
  constructor
  ·rintro⟨a,o,g⟩;rw[List.mem_singleton]at o;subst o;exact g
  ·exact fun g=>⟨n+x,by simp,g⟩
 clear h d q;go_enter Tryz.func21,Tryz.ntmps21;go_wp2_with fail;refine(jt W b S.tk n n (some ⟨p.eb,0,none⟩) C j (x:Int)).mono ?_;rintro e w1 ⟨rfl,rfl⟩;rw[hd];go_wp2_with fail;refine(yw w1 b n n x _ j f r).mono ?_;rintro e w2 ⟨rfl,rfl⟩;go_wp2_with fail;refine z.out.mono ?_;rintro e L m;have A:Hid (Told w2 L (S.tk+1) (FolP S x) e):=m;obtain⟨l,u,v,rfl,-⟩:=m;go_wp2_with fail;go_ret;exact A.out
def wdOf (s:ByteArray) (x:Nat × Nat × Nat):Wd:=⟨(x.1:Int),s.extract x.2.1 x.2.2,(x.2.1:Int)⟩
theorem qma(l:List UInt8)(i j:Nat):bt (l.drop i) j=bt l (i+j):=by unfold bt;rw[List.getElem?_drop]
theorem qmb{l:List UInt8}{i e j:Nat}(h:j<e - i):bt (part l i e) j=bt l (i+j):=by
 unfold part;rw[<-qma];unfold bt;rw[List.getElem?_take,if_pos h]
theorem qe8{l:List UInt8}{i e:Nat}(h:e<=l.length):(part l i e).length=e - i:=by
 unfold part;rw[List.length_take,List.length_drop];omega
theorem qgu(p:Int->Bool):∀(l:List UInt8) (j:Nat),j<xv p l->p (bt l j)=true
 | [],j,h=>by simp[xv]at h
 | b :: r,0,h=>by
  unfold xv at h
  split at h
  ·rename_i hp;exact hp
  ·omega
 | b :: r,j+1,h=>by
  unfold xv at h
  split at h
  ·have:=qgu p r j (by omega);exact this
  ·omega
theorem qll{p:Int->Bool}{l:List UInt8}{i j:Nat}(b:i<=j)(a:j<runEnd p l i):p (bt l j)=true:=by
 have:=qgu p (l.drop i) (j - i) (by unfold runEnd at a;omega)
 rw[qma,show i+(j - i)=j by omega]at this;exact this
theorem qrs(s:ByteArray)(i e:Nat)(h:e<=(by8 s).length):(s.extract i e).size=e - i:=by
 rw[<-qy,z9,qe8 h]
theorem qrt(s:ByteArray)(i:Nat)(x:i<(by8 s).length)(d:(wordP (by8 s) i).1≠0):WdOk (wdOf s ((wordP (by8 s) i).1,i,(wordP (by8 s) i).2)):=by
 obtain⟨F,D,B,G⟩:=yg x;have B:=B d;have b:=qrs s i _ D
 have q:bt (by8 (s.extract i (wordP (by8 s) i).2)) 0=bt (by8 s) i:=by rw[z9,qmb (by omega)];rfl
 have a:(1:Int)<=((wordP (by8 s) i).1:Int)/\((wordP (by8 s) i).1:Int)<=4:=by omega
 by_cases f:isL (bt (by8 s) i)=true
 ·have e:=qab f;unfold nameP at e
  by_cases o:12<runEnd isN (by8 s) i - i
  ·rw[if_pos o]at e;rw[e]at d;exact absurd rfl d
  ·rw[if_neg o]at e;refine⟨a,fun _=>⟨by unfold wdOf;simp only;rw[q];exact f,by unfold wdOf;simp only;rw[b];omega⟩,fun h=>?_,fun h=>?_,fun h=>?_,by unfold wdOf;simp only;rw[b,e];simp only;omega⟩
   all_goals (unfold wdOf at h;simp only at h;rw[e]at h;simp at h)
 ·have f:isL (bt (by8 s) i)=false:=by simpa using f
  by_cases l:isD (bt (by8 s) i)=true
  ·have e:=qa8 f l;unfold numberP at e
   by_cases u:jv (by8 s) i (runEnd isD (by8 s) i)=true
   ·rw[if_pos u]at e;rw[e]at d;exact absurd rfl d
   ·rw[if_neg u]at e
    have g:runEnd isD (by8 s) i - i<=4:=by
     unfold jv at u;simp only[Bool.or_eq_true,not_or,decide_eq_true_eq]at u;omega
    refine⟨a,fun h=>?_,fun _=>⟨by unfold wdOf;simp only;rw[b];omega,by unfold wdOf;simp only;rw[b,e];exact g,fun j n=>?_⟩,fun h=>?_,fun h=>?_,by unfold wdOf;simp only;rw[b,e];simp only;omega⟩
    ·unfold wdOf at h;simp only at h;rw[e]at h;simp at h
    ·unfold wdOf at n ⊢;simp only at n ⊢;rw[b]at n;rw[z9,qmb n];refine qll (i:=i) (by omega) ?_;rw[e]at n;simp only at n;omega
    ·unfold wdOf at h;simp only at h;rw[e]at h;simp at h
    ·unfold wdOf at h;simp only at h;rw[e]at h;simp at h
  ·have l:isD (bt (by8 s) i)=false:=by simpa using l
   by_cases m:(bt (by8 s) i == 37)=true
   ·have e:=qa9 f l m
    have r:(wordP (by8 s) i).1=4/\(wordP (by8 s) i).2 - i<=100:=by
     rw[e];rw[e]at d;unfold keyP at d ⊢
     split
     ·exact⟨rfl,by simp only;omega⟩
     ·rename_i hp;rw[if_neg hp]at d
      split
      ·rename_i k;refine⟨rfl,?_⟩;have E:(part (by8 s) (i+1) (runEnd isN (by8 s) (i+1))).length=runEnd isN (by8 s) (i+1) - (i+1):=qe8 (jk (by omega))
       have C:∀t,j2.contains t=true->t.length<=8:=by
        intro t A;simp[j2]at A
        rcases A with rfl | rfl | rfl | rfl | rfl | rfl | rfl <;> decide
       have:=C _ k;simp only;omega
      ·rename_i k;rw[if_neg k]at d;exact absurd rfl d
    refine⟨a,fun h=>?_,fun h=>?_,fun h=>?_,fun _=>⟨by unfold wdOf;simp only;rw[q];simpa using m,by unfold wdOf;simp only;rw[b];omega⟩,by unfold wdOf;simp only;rw[b];exact r.2⟩
    all_goals (unfold wdOf at h;simp only at h;rw[r.1]at h;simp at h)
   ·have m:(bt (by8 s) i == 37)=false:=by simpa using m
    by_cases g:isS (bt (by8 s) i)=true
    ·have e:=qac f l m g
     have y:by8 (s.extract i (wordP (by8 s) i).2)=[(by8 s)[i]]:=by
      rw[z9,e];unfold part;simp only;rw[show i+1 - i=1 by omega,List.drop_eq_getElem_cons x];rfl
     have v:bt (by8 s) i=(((by8 s)[i]).toNat:Int):=by unfold bt;rw[List.getElem?_eq_getElem x];rfl
     refine⟨a,fun h=>?_,fun h=>?_,fun _=>?_,fun h=>?_,by unfold wdOf;simp only;rw[b,e];simp only;omega⟩
     ·unfold wdOf at h;simp only at h;rw[e]at h;simp at h
     ·unfold wdOf at h;simp only at h;rw[e]at h;simp at h
     ·unfold wdOf;simp only;rw[y];unfold isS at g;rw[v]at g;simp only[Bool.or_eq_true,beq_iff_eq]at g
      have z:∀c:UInt8,((c.toNat:Int)=58\/(c.toNat:Int)=124)\/(c.toNat:Int)=59->[c]=[58]\/[c]=[124]\/[c]=[(59:UInt8)]:=by
       intro c k
       rcases k with (k | k) | k
       ·left;rw[List.cons.injEq];exact⟨UInt8.toNat_inj.1 (by have p:c.toNat=58:=(by omega);rw[p];rfl),rfl⟩
       ·right;left;rw[List.cons.injEq];exact⟨UInt8.toNat_inj.1 (by have p:c.toNat=124:=(by omega);rw[p];rfl),rfl⟩
       ·right;right;rw[List.cons.injEq];exact⟨UInt8.toNat_inj.1 (by have p:c.toNat=59:=(by omega);rw[p];rfl),rfl⟩
      exact z _ g
     ·unfold wdOf at h;simp only at h;rw[e]at h;simp at h
    ·rw[qbl f l m (by simpa using g)]at d;exact absurd rfl d
theorem qgv(s:ByteArray):∀(f i:Nat) (a c:List (Nat × Nat × Nat)),(∀x∈a,WdOk (wdOf s x))->kr f (by8 s) i a=(c,-1)->Ends (c.map (wdOf s))
 | 0,i,a,c,_,h=>by simp[kr]at h
 | f+1,i,a,c,ha,h=>by
  by_cases g:i<(by8 s).length
  ·by_cases d:(wordP (by8 s) i).1=0
   ·rw[qby g d]at h;simp at h
   ·rw[y8 g d]at h;refine qgv s f _ _ c (fun x b=>?_) h
    rcases List.mem_append.1 b with b | b
    ·exact ha x b
    ·rw[List.mem_singleton]at b;subst b;exact qrt s i g d
  ·rw[qbx (by omega)]at h;simp only[Prod.mk.injEq]at h;rw[<-h.1,List.map_append];refine⟨a.map (wdOf s),((by8 s).length:Int),?_,fun w j=>?_⟩
   ·congr 1
    show[wdOf s (5,(by8 s).length,(by8 s).length)]=[endW _]
    unfold wdOf endW;simp only;rw[qy,qew];rfl
   ·obtain⟨x,b,rfl⟩:=List.mem_map.1 j;exact ha x b
theorem qor{s:ByteArray}(h:(scan (by8 s)).2=-1):Ends ((scan (by8 s)).1.map (wdOf s)):=by
 refine qgv s _ _ [] _ (fun x a=>by cases a) (?_:scan (by8 s)=_);rw[<-h]
theorem qc5{l:List UInt8}{m i:Nat}(h:i<m):bt (l.take m) i=bt l i:=by
 unfold bt;rw[List.getElem?_take,if_pos h]
theorem qe9(p:Int->Bool):∀(l:List UInt8) (m:Nat),xv p (l.take m)=min (xv p l) m
 | [],m=>by simp[xv]
 | b :: r,0=>by simp[xv]
 | b :: r,m+1=>by
  rw[List.take_succ_cons];unfold xv
  split
  ·rw[qe9 p r m];omega
  ·omega
theorem qa6{p:Int->Bool}{l:List UInt8}{m i:Nat}(h:i<=m)(a:runEnd p l i<=m):runEnd p (l.take m) i=runEnd p l i:=by
 unfold runEnd at *
 rw[List.drop_take,qe9];omega
theorem qos{l:List UInt8}{m i e:Nat}(a:e<=m):part (l.take m) i e=part l i e:=by
 unfold part;rw[List.drop_take,List.take_take,show min (e - i) (m - i)=e - i by omega]
theorem yz{l:List UInt8}{m:Nat}(a:m<=l.length):(l.take m).length=m:=by rw[List.length_take];omega
theorem qen{x y:Int}{l:List UInt8}{m i:Nat}(a:m<=l.length)(h:i+1<m):pre2 x y (l.take m) i=pre2 x y l i:=by
 unfold pre2;rw[yz a,qc5 (by omega),qc5 h,decide_eq_true h,decide_eq_true (show i+1<l.length by omega)]
theorem qeo{x y:Int}{l:List UInt8}{m i:Nat}(b:m<=l.length)(h:pre2 x y l i=false):pre2 x y (l.take m) i=false:=by
 by_cases a:i+1<m
 ·rw[qen b a,h]
 ·unfold pre2;rw[yz b,decide_eq_false a];rfl
theorem qdo{l:List UInt8}{m:Nat}(j:m<=l.length):∀(f g i:Nat),i<=m->m - i<g->l.length - i<f->xm f l i<=m->xm g (l.take m) i=xm f l i
 | 0,_,_,_,_,h,_=>by omega
 | f+1,0,_,_,h,_,_=>by omega
 | f+1,g+1,i,hi,h1,h2,h3=>by
  have r:=yz j
  by_cases q:i=m
  ·rw[qfe (by omega)]
   by_cases b:i<l.length
   ·have:=(qbw (l:=l) (f+1) i (by omega)).1;omega
   ·rw[qfe (by omega)]
  ·have d:i<l.length:=by omega
   have c:=qc5 (l:=l) (show i<m by omega)
   by_cases b:isB (bt l i)=true
   ·rw[qc7 d b]at h3 ⊢;rw[qc7 (by omega) (by rw[c];exact b)]
    exact qdo j f g (i+1) (by omega) (by omega) (by omega) h3
   ·have b:isB (bt l i)=false:=by simpa using b
    by_cases a:pre2 47 47 l i=true
    ·rw[qd0 d b a]at h3 ⊢;have s:=qd2 a;have k:=jk (p:=noNl) (l:=l) (i:=i) (by omega);have t:=(qbw (l:=l) f (runEnd noNl l i) k).1
     have n:runEnd noNl l i=runEnd noNl l (i+1+1):=by
      simp only[pre2,Bool.and_eq_true,decide_eq_true_eq,beq_iff_eq]at a;rw[kt d (by rw[a.1.2];rfl),kt a.1.1 (by rw[a.2];rfl)]
     have o:=vl noNl l (i+1+1);rw[qd0 (by omega) (by rw[c];exact b) (by rw[qen j (by omega)];exact a),qa6 hi (by omega)]
     exact qdo j f g _ (by omega) (by omega) (by omega) h3
    ·have a:pre2 47 47 l i=false:=by simpa using a
     rw[qd1 b a,qd1 (by rw[c];exact b) (qeo j a)]
theorem qid{l:List UInt8}{m i:Nat}(a:m<=l.length)(b:i<=m)(h:skip l i<=m):skip (l.take m) i=skip l i:=by
 unfold skip at *
 exact qdo a _ _ i b (by rw[yz a];omega) (by omega) h
theorem qm8{l:List UInt8}{m i:Nat}(n:m<=l.length)(o:i<m)(b:(wordP l i).1≠0)(a:(wordP l i).2<=m):wordP (l.take m) i=wordP l i:=by
 have d:=qc5 (l:=l) o
 by_cases c:isL (bt l i)=true
 ·rw[qab c]at b a ⊢;rw[qab (by rw[d];exact c)]
  unfold nameP at *
  split at b
  ·exact absurd rfl b
  ·rename_i hc;rw[if_neg hc]at a;rw[qa6 (by omega) a]
 ·have c:isL (bt l i)=false:=by simpa using c
  by_cases f:isD (bt l i)=true
  ·rw[qa8 c f]at b a ⊢;rw[qa8 (by rw[d];exact c) (by rw[d];exact f)]
   unfold numberP at *
   split at b
   ·exact absurd rfl b
   ·rename_i hc;rw[if_neg hc]at a ⊢;rw[qa6 (by omega) a,if_neg];intro h
    apply hc
    unfold jv at *
    rw[yz n,d]at h;simp only[Bool.or_eq_true,Bool.and_eq_true,decide_eq_true_eq]at h ⊢
    rcases h with h | ⟨h,hn2⟩
    ·exact Or.inl h
    ·rw[qc5 h]at hn2;exact Or.inr ⟨by omega,hn2⟩
  ·have f:isD (bt l i)=false:=by simpa using f
   by_cases g:(bt l i == 37)=true
   ·rw[qa9 c f g]at b a ⊢;rw[qa9 (by rw[d];exact c) (by rw[d];exact f) (by rw[d];exact g)]
    unfold keyP at *
    by_cases j:pre2 37 37 l i=true
    ·rw[if_pos j]at a ⊢;simp only at a;rw[if_pos (by rw[qen n (by omega)];exact j)]
    ·rw[if_neg j]at b a ⊢;rw[if_neg (by rw[qeo n (by simpa using j)];simp)]
     split at b
     ·rename_i hc;rw[if_pos hc]at a ⊢;rw[qa6 (by omega) a,qos a,if_pos hc]
     ·exact absurd rfl b
   ·have g:(bt l i == 37)=false:=by simpa using g
    by_cases k:isS (bt l i)=true
    ·rw[qac c f g k,qac (by rw[d];exact c) (by rw[d];exact f) (by rw[d];exact g) (by rw[d];exact k)]
    ·rw[qbl c f g (by simpa using k)]at b;exact absurd rfl b
theorem qao{l:List UInt8}{m:Nat}:∀(f i:Nat) (a:List (Nat × Nat × Nat)),(kr f l i a).2=(m:Int)->i<=m/\m<l.length
 | 0,i,a,h=>by simp only[kr]at h;omega
 | f+1,i,a,h=>by
  by_cases b:i<l.length
  ·by_cases c:(wordP l i).1=0
   ·rw[qby b c]at h;simp only at h;omega
   ·rw[y8 b c]at h;have g:=qao f _ _ h;have d:=yg b;have j:=qbs (l:=l) (i:=(wordP l i).2) d.2.1;omega
  ·rw[qbx (by omega)]at h;simp only at h;omega
theorem qgw{l:List UInt8}{m:Nat}:∀(f c i:Nat) (a:List (Nat × Nat × Nat)),m - i<c->(kr f l i a).2=(m:Int)->(kr c (l.take m) i a).2=-1
 | 0,_,i,a,_,h=>by simp only[kr]at h;omega
 | f+1,0,_,_,h,_=>by omega
 | f+1,c+1,i,a,hf,h=>by
  have r:=qao _ _ _ h
  have g:m<=l.length:=by omega
  have q:=yz g
  have d:i<l.length:=by omega
  by_cases p:i=m
  ·rw[qbx (by omega)]
  ·by_cases b:(wordP l i).1=0
   ·rw[qby d b]at h;simp only at h;omega
   ·rw[y8 d b]at h;have n:=qao f _ _ h;have j:=yg d;have o:=qbs (l:=l) (i:=(wordP l i).2) j.2.1;have k:=qm8 g (by omega:i<m) b (by omega);rw[y8 (by omega) (by rw[k];exact b),k,qid g (by omega) n.1]
    exact qgw f c _ _ (by have:=j.2.2.1 b;omega) h
theorem qot{l:List UInt8}{m:Nat}(h:(scan l).2=(m:Int)):m<l.length/\(scan (l.take m)).2=-1:=by
 unfold scan at *
 have b:=qao _ _ _ h;refine⟨b.2,?_⟩
 have a:m<=l.length:=by omega
 rw[qid a (by omega) b.1,yz a];exact qgw _ _ _ _ (by omega) h
def TokA (w W:World) (rb:Nat) (qs:List (Ru × Option Addr × Nat)) (R:Except Flt (Nat × St)) (e:Ending) (W':World):Prop :=
 match R with
 | .ok (i,S1)=>∃h' tb,e=.returned (.tuple #[.pointer (some ⟨tb,i * 4,none⟩),fv (0,0)])/\h'.ta=some ⟨tb,0,none⟩/\RD w W' rb h' S1 qs/\Keep W W'
 | .error f=>e=.returned (.tuple #[.pointer none,fv f])/\(∃h' S1,RD w W' rb h' S1 qs)/\Keep W W'
theorem Keep.far{W a:World}(k:Keep W a){b:Nat}(l:W.heap.size<=b)(j:Nat)(u:Value):Keep W (a.setCell ⟨b,j,none⟩ u) :=
 ⟨by have:=k.size;simpa using this,fun b' c T d f g h i=>by
  rw[Below.heap_setCell _ _ _ _ (fun e=>by simp only at e;have:=(Array.getElem?_eq_some_iff.1 d).1;omega)]
  exact k.loc b' c T d f g h i⟩
theorem qdy(x:Wd)(w W:World)(k:Nat)(h:RHd)(S:St)(qs:List (Ru × Option Addr × Nat))(r:RD w W k h S qs):
  Calls Tryz.prog 156 #[.pointer (some ⟨k,0,none⟩),wv x] W fun e W'=>TokA w W k qs (tokP x S) e W':=by
 obtain⟨p,d,l⟩:=x;unfold wv;simp only;have H:Below W.heap.size W ((W.alloc (.cells #[.int .i64 p,.string d,.int .i64 l] 149)).alloc (.cells #[.int .i64 0,.int .i64 0] 125)):=qd (qb _ _) (qb _ _);have I:((W.alloc (.cells #[.int .i64 p,.string d,.int .i64 l] 149)).alloc (.cells #[.int .i64 0,.int .i64 0] 125)).heap[W.heap.size]?=some (.cells #[.int .i64 p,.string d,.int .i64 l] 149 (0,0)):=qf (qb _ _) (heap_alloc_new _ _)
 have J:((W.alloc (.cells #[.int .i64 p,.string d,.int .i64 l] 149)).alloc (.cells #[.int .i64 0,.int .i64 0] 125)).heap[W.heap.size+1]?=some (.cells #[.int .i64 0,.int .i64 0] 125 (0,0)):=by
  have:=heap_alloc_new (W.alloc (.cells #[.int .i64 p,.string d,.int .i64 l] 149)) (.cells #[.int .i64 0,.int .i64 0] 125)
  rwa [qt]at this
 have a4:k<W.heap.size:=(Array.getElem?_eq_some_iff.1 r.box).1;have L:Hid (RD w ((W.alloc (.cells #[.int .i64 p,.string d,.int .i64 l] 149)).alloc (.cells #[.int .i64 0,.int .i64 0] 125)) k h S qs):=r.step H;have s:Hid (w.heap.size<=W.heap.size):=r.bel.size;obtain⟨b0,b3⟩:=r.tlen;have c3:S.ts.length<=40:=r.ok.nt;clear r;obtain⟨X,Z,Y,V,M,T,U⟩:=h;simp only at b0 b3;have b7:Hid ((S.ts.length=40)\/¬(S.ts.length=40)):=Classical.em _
 generalize en:S.ts.length=n at *
 have B:Hid (S.ts.length=n):=en;clear en;go_enter Tryz.func156,Tryz.ntmps156
 go_upto_region 1 with fail
 generalize (W.alloc (.cells #[.int .i64 p,.string d,.int .i64 l] 149)).alloc (.cells #[.int .i64 0,.int .i64 0] 125)=z at H I J L ⊢
 obtain⟨a,K⟩:∃a,a=W.heap.size:=⟨_,rfl⟩
 rw[<-K]at I J ⊢
 have P:Hid (a=W.heap.size/\k<a):=⟨K,by rw[K];exact a4⟩
 have N:Hid (Below W.heap.size W z):=H
 have q:Hid (z.heap[a]?=some (.cells #[.int .i64 p,.string d,.int .i64 l] 149 (0,0))/\z.heap[a+1]?=some (.cells #[.int .i64 0,.int .i64 0] 125 (0,0))):=⟨I,J⟩
 clear I J a4 K H
 have HC:Hid (Calls Tryz.prog 168 #[.slice V n M,.func (.func 169) #[] #[.pointer (some ⟨a,0,none⟩)]] z fun e w'=>e=.returned (.int .i64 (idxI (vg S.ts d)))/\Below z.heap.size z w'):=by
  have:=qhc w z k ⟨X,Z,Y,V,M,T,U⟩ S qs L.out a d (by rw[qe q.out.1];rfl)
  simp only[B.out]at this;exact this
 have b1:z.cell? ⟨k,1,none⟩=some (.slice V n M):=by
  rw[qe L.out.box];unfold rdC;simp only[B.out];rfl
 go_wp2_with fail;refine HC.out.mono ?_;rintro e g ⟨rfl,H⟩;have f:Hid (Below z.heap.size z g):=H;clear H b1 HC
 have b1:g.cell? ⟨k,1,none⟩=some (.slice V n M):=by
  rw[qe (qf f.out L.out.box)];unfold rdC;simp only[B.out];rfl
 have t2:=qf f.out q.out.2
 have q3:g.cell? ⟨a+1,0,none⟩=some (.int .i64 0):=by rw[qe t2];rfl
 have q4:g.cell? ⟨a+1,1,none⟩=some (.int .i64 0):=by rw[qe t2];rfl
 have z3:g.frozen? ⟨a+1,0,none⟩=false:=qi t2 0;have z4:g.frozen? ⟨a+1,1,none⟩=false:=qi t2 1
 have a0:Hid (Loc g (a+1) 125):=⟨_,t2⟩
 clear t2
 cases Q:vg S.ts d with
 | some i =>
  obtain⟨t,ht,b5⟩:=qfk Q
  have hi:i<n:=by rw[<-B.out];exact(List.getElem?_eq_some_iff.1 ht).1
  obtain⟨o,bb,a6,-⟩:=(L.out.step f.out).tokAt ht;simp only at a6;subst a6
  have b9:(i:Int)<(n:Int):=by omega
  have HF:Hid (tokP ⟨p,d,l⟩ S=.ok (i,S)):=by
   show _=_;unfold tokP;simp only[Q]
  clear Q ht b5;unfold idxI;simp only;go_wp2_with fail;refine bodyPost_ret (v:=.tuple #[.pointer (some ⟨o,i * 4,none⟩),.agg #[.int .i64 0,.int .i64 0]]) (by simp[results,Tryz.results156,go_sem, *]) rfl ?_;rw[HF.out];have hn:W.heap.size<=a:=Nat.le_of_eq P.out.1.symm;have hk:Keep W g:=qp (qd N.out f.out);refine⟨⟨X,Z,Y,some ⟨o,0,none⟩,M,T,U⟩,o,rfl,rfl,?_,(hk.far (by omega) _ _).far (by omega) _ _⟩;exact((L.out.step f.out).far a0.out (by decide) (by have:=s.out;omega)).far (a0.out.set _ _ _) (by decide) (by have:=s.out;omega)
 | none =>
  unfold idxI;simp only
  by_cases D:n=40
  ·have hq:((n:Int) == 40)=true:=by simp[D]
   have HF:Hid (tokP ⟨p,d,l⟩ S=.error (zj ⟨p,d,l⟩)):=by
    show _=_;unfold tokP;simp only[Q,B.out,D,if_true]
   have t1:=qf f.out q.out.1
   have p0:g.cell? ⟨a,0,none⟩=some (.int .i64 p):=by rw[qe t1];rfl
   have p1:g.cell? ⟨a,1,none⟩=some (.string d):=by rw[qe t1];rfl
   have p2:g.cell? ⟨a,2,none⟩=some (.int .i64 l):=by rw[qe t1];rfl
   clear Q t1 q3 q4 z3 z4 D;go_wp2_with fail;refine(jo ⟨p,d,l⟩ _).mono ?_;rintro e y ⟨rfl,H⟩;have O:Hid (Below z.heap.size z y):=qd f.out H;clear H b1 p0 p1 p2;unfold fv zj;simp only;have t2:=qf O.out q.out.2
   have q3:y.cell? ⟨a+1,0,none⟩=some (.int .i64 0):=by rw[qe t2];rfl
   have q4:y.cell? ⟨a+1,1,none⟩=some (.int .i64 0):=by rw[qe t2];rfl
   have z3:y.frozen? ⟨a+1,0,none⟩=false:=qi t2 0;have z4:y.frozen? ⟨a+1,1,none⟩=false:=qi t2 1
   have a1:Hid (Loc y (a+1) 125):=⟨_,t2⟩
   clear t2;go_wp2_with fail;refine bodyPost_ret (v:=.tuple #[.pointer none,.agg #[.int .i64 1,.int .i64 l]]) (by simp[results,Tryz.results156,go_sem, *]) rfl ?_;rw[HF.out];have hn:W.heap.size<=a:=Nat.le_of_eq P.out.1.symm;have hk:Keep W y:=qp (qd N.out O.out);refine⟨rfl,⟨⟨X,Z,Y,V,M,T,U⟩,S,?_⟩,(hk.far (by omega) _ _).far (by omega) _ _⟩;exact((L.out.step O.out).far a1.out (by decide) (by have:=s.out;omega)).far (a1.out.set _ _ _) (by decide) (by have:=s.out;omega)
  ·have hq:((n:Int) == 40)=false:=by simp;omega
   have a8:S.ts.length<40:=by rw[B.out];omega
   have HF:Hid (tokP ⟨p,d,l⟩ S=.ok (n,⟨S.ws,S.ts++[⟨d,0,0⟩],S.ls++[false],S.lv,S.st,S.ed,S.ex,S.rs⟩)):=by
    show _=_;unfold tokP;simp only[Q,B.out];rw[if_neg D]
   have p1:g.cell? ⟨a,1,none⟩=some (.string d):=by rw[qe (qf f.out q.out.1)];rfl
   obtain⟨o,m,c,y,F,hm,E,a5,R⟩:=((L.out.step f.out).step (qk g)).addTok d a8;simp only[B.out]at F hm;have G:(Builtin.append_ #[137,137] 137 #[.slice V n M,.slice (some ⟨g.heap.size,0,none⟩) 1 1]).run Tryz.prog (g.alloc (.cells #[.string d,.int .i64 0,.int .i64 0,.bool false] 153)).drew=.ok (.slice (some ⟨o,0,none⟩) m c) y:=F
   have d1:y.cell? ⟨k,1,none⟩=some (.slice V n M):=by
    rw[qe E];unfold rdC;simp only[B.out];rfl
   have f1:y.frozen? ⟨k,1,none⟩=false:=qi E 1
   have HD:Hid (RD w (y.setCell ⟨k,1,none⟩ (.slice (some ⟨o,0,none⟩) m c)) k ⟨X,Z,Y,some ⟨o,0,none⟩,c,T,U⟩ ⟨S.ws,S.ts++[⟨d,0,0⟩],S.ls++[false],S.lv,S.st,S.ed,S.ex,S.rs⟩ qs/\Keep g (y.setCell ⟨k,1,none⟩ (.slice (some ⟨o,0,none⟩) m c))):=⟨a5,R.size,R.loc⟩
   subst hm;have b6:=qo p1 (.cells #[.string d,.int .i64 0,.int .i64 0,.bool false] 153);have a7:=qo b1 (.cells #[.string d,.int .i64 0,.int .i64 0,.bool false] 153);clear F a5 R E q3 q4 z3 z4 Q D
   go_upto_region 6 with fail
   go_cut [40] (fun s40 wd=>Hid (RD w wd k ⟨X,Z,Y,some ⟨o,0,none⟩,c,T,U⟩ ⟨S.ws,S.ts++[⟨d,0,0⟩],S.ls++[false],S.lv,S.st,S.ed,S.ex,S.rs⟩ qs/\Keep g wd))
   case first =>
    go_region_law(refine zc rfl (.tmp 34) (.tmp 39) rfl rfl (by simp[Act.eval]) (by simp[Act.eval]) G ?_)
    all_goals (go_wp2_with fail;go_meet;exact HD)
   case rest =>
    obtain⟨C,b8⟩:∃C,C=wc:=⟨_,rfl⟩
    subst wc;have A:Hid (RD w C k ⟨X,Z,Y,some ⟨o,0,none⟩,c,T,U⟩ ⟨S.ws,S.ts++[⟨d,0,0⟩],S.ls++[false],S.lv,S.st,S.ed,S.ex,S.rs⟩ qs/\Keep g C):=hcut;clear hcut HD d1 f1 b1 a7 p1 b6 G;have t2:=A.out.2.loc _ _ _ (qf f.out q.out.2) (by decide) (by decide) (by decide) (by decide)
    have q3:C.cell? ⟨a+1,0,none⟩=some (.int .i64 0):=by rw[qe t2];rfl
    have q4:C.cell? ⟨a+1,1,none⟩=some (.int .i64 0):=by rw[qe t2];rfl
    have z3:C.frozen? ⟨a+1,0,none⟩=false:=qi t2 0;have z4:C.frozen? ⟨a+1,1,none⟩=false:=qi t2 1
    have a2:Hid (Loc C (a+1) 125):=⟨_,t2⟩
    have b1:C.cell? ⟨k,1,none⟩=some (.slice (some ⟨o,0,none⟩) (n+1) c):=by
     rw[qe A.out.1.box];unfold rdC;simp only[List.length_append,List.length_cons,List.length_nil,B.out];rfl
    obtain⟨a9,b2⟩:=A.out.1.tlen;simp only[List.length_append,List.length_cons,List.length_nil,B.out]at a9 b2
    have c4:(n:Int)<(n:Int)+1:=by omega
    clear t2
    go_upto_region 7 with fail
    go_region
    all_goals
     go_wp2_with fail;refine bodyPost_ret (v:=.tuple #[.pointer (some ⟨o,n * 4,none⟩),.agg #[.int .i64 0,.int .i64 0]]) (by simp[results,Tryz.results156,go_sem, *]) rfl ?_;rw[HF.out];have hn:W.heap.size<=a:=Nat.le_of_eq P.out.1.symm;have hk:Keep W C:=(qp (qd N.out f.out)).trans A.out.2;have a3:=(hk.far (b:=a+1) (by omega) 0 (.int .i64 0)).far (b:=a+1) (by omega) 1 (.int .i64 0);have b4:=((A.out.1.far (j:=0) (u:=.int .i64 0) a2.out (by decide) (by have:=s.out;omega)).far (j:=1) (u:=.int .i64 0) (a2.out.set _ _ _) (by decide) (by have:=s.out;omega)).step (qk _)
     exact⟨⟨X,Z,Y,some ⟨o,0,none⟩,c,T,U⟩,o,rfl,rfl,b4,a3.size,a3.loc⟩
theorem qfx{α:Type}:∀{l:List α} {i:Nat} {x:α},l[i]?=some x->l.set i x=l
 | [],_,_,h=>by cases h
 | y :: r,0,x,h=>by cases h;rfl
 | y :: r,i+1,x,h=>by
  rw[List.set_cons_succ,qfx (l:=r) (by simpa using h)]
theorem qmc{α β:Type}:∀{l:List α} {m:List β} {i:Nat} {x:α} {y:β},(l.set i x).zip (m.set i y)=(l.zip m).set i (x,y)
 | [],m,i,x,y=>by simp
 | a :: l,[],i,x,y=>by simp
 | a :: l,b :: m,0,x,y=>rfl
 | a :: l,b :: m,i+1,x,y=>by
  simp only[List.set_cons_succ,List.zip_cons_cons];rw[qmc]
theorem RD.setTok{w W:World}{o d:Nat}{h:RHd}{S:St}{qs:List (Ru × Option Addr × Nat)}(r:RD w W o h S qs)(f:h.ta=some ⟨d,0,none⟩){i j:Nat}{t t':Tk}{b b':Bool}(D:S.ts[i]?=some t)(y:S.ls[i]?=some b)(B:j<4)(u:Value)(z:([.string t.n,.int .i64 t.l,.int .i64 t.a,.bool b]:List Value).set j u=[.string t'.n,.int .i64 t'.l,.int .i64 t'.a,.bool b']):
  RD w (W.setCell ⟨d,i * 4+j,none⟩ u) o h ⟨S.ws,S.ts.set i t',S.ls.set i b',S.lv,S.st,S.ed,S.ex,S.rs⟩ qs/\Keep W (W.setCell ⟨d,i * 4+j,none⟩ u):=by
 have c:=r.tok;rw[f]at c;have g:Loc W d 153:=qx c rfl
 have far:∀{E k n:Nat} {v:Value} {cs:List Value},W.ownsRow w.heap.size E k v n cs->E≠153->(W.setCell ⟨d,i * 4+j,none⟩ u).ownsRow w.heap.size E k v n cs:=by
  intro E k n v cs c x;exact qh c (fun i A=>Below.heap_setCell _ _ _ _ (qr (qx c A) g x))
 have F:(S.ts.zip S.ls)[i]?=some (t,b):=by rw[List.getElem?_zip_eq_some];exact⟨D,y⟩
 refine⟨⟨?_,r.wds,?_,far r.rul (by decide),r.map,fun q C=>far (r.row q C) (by decide),?_,r.new,?_⟩,(Keep.refl W).set g (.inr (.inl rfl)) _ _⟩
 ·rw[Below.heap_setCell _ _ _ _ (qr ⟨_,r.box⟩ g (by decide)),r.box];unfold rdC;simp only[List.length_set]
 ·have m:=ql3 (u:=u) (j:=i * 4+j) c
  have s:(rtC (S.ts.zip S.ls)).set (i * 4+j) u=rtC ((S.ts.set i t').zip (S.ls.set i b')):=by
   rw[qmc];exact qjs _ (fun _=>rfl) (t',b') j u (S.ts.zip S.ls) i (t,b) F B z
  rw[s]at m;simp only[List.length_set];rw[f];exact m
 ·exact r.bel.setCell (p:=⟨d,i * 4+j,none⟩) (World.ownsRow.lt c d rfl).1 _
 ·exact⟨r.ok.ends,by simp only[List.length_set];exact r.ok.nt,by simp only[List.length_set];exact r.ok.nl,r.ok.lv,r.ok.nr⟩
def kf (R:Except Flt St):Flt:=match R with | .ok _=>(0,0) | .error f=>f
def Did (w W:World) (rb:Nat) (qs:List (Ru × Option Addr × Nat)) (R:Except Flt St) (e:Ending) (W':World):Prop :=
 ∃h' S',e=.returned (fv (kf R))/\RD w W' rb h' S' qs/\Keep W W'/\∀S1,R=.ok S1->S'=S1
theorem zf{w W a:World}{l b:Nat}{h:RHd}{c:St}{qs:List (Ru × Option Addr × Nat)}{R:Except Flt St}{d f:Int}(r:RD w a l h c qs)(k:Keep W a)(j:Loc a b 125)(i:W.heap.size<=b)(o:w.heap.size<=W.heap.size)(m:kf R=(d,f))(n:∀g,R=.ok g->c=g):
  Did w W l qs R (.returned (.agg #[.int .i64 d,.int .i64 f])) ((a.setCell ⟨b,0,none⟩ (.int .i64 d)).setCell ⟨b,1,none⟩ (.int .i64 f)):=by
 refine⟨h,c,by rw[m];rfl,?_,(k.far i _ _).far i _ _,n⟩
 exact(r.far j (by decide) (by omega)).far (j.set _ _ _) (by decide) (by omega)
theorem zg{W:World}{b:Nat}{a c:Value}(h:W.heap[b]?=some (.cells #[a,c] 125 (0,0))):W.cell? ⟨b,0,none⟩=some a/\W.cell? ⟨b,1,none⟩=some c/\W.frozen? ⟨b,0,none⟩=false/\W.frozen? ⟨b,1,none⟩=false :=
 ⟨by rw[qe h];rfl,by rw[qe h];rfl,qi h 0,qi h 1⟩
theorem yy{W:World}{b:Nat}{a c d:Value}(h:W.heap[b]?=some (.cells #[a,c,d] 149 (0,0))):W.cell? ⟨b,0,none⟩=some a/\W.cell? ⟨b,1,none⟩=some c/\W.cell? ⟨b,2,none⟩=some d :=
 ⟨by rw[qe h];rfl,by rw[qe h];rfl,by rw[qe h];rfl⟩
theorem qke(x:Wd)(w W:World)(A:Nat)(h:RHd)(S:St)(qs:List (Ru × Option Addr × Nat))(r:RD w W A h S qs):
  Calls Tryz.prog 138 #[.pointer (some ⟨A,0,none⟩),wv x] W fun e Z=>Did w W A qs (ki x S) e Z:=by
 obtain⟨g,k,d⟩:=x;have L:Below W.heap.size W ((W.alloc (.cells #[.int .i64 g,.string k,.int .i64 d] 149)).alloc (.cells #[.int .i64 0,.int .i64 0] 125)):=qd (qb _ _) (qb _ _);have n:((W.alloc (.cells #[.int .i64 g,.string k,.int .i64 d] 149)).alloc (.cells #[.int .i64 0,.int .i64 0] 125)).heap[W.heap.size]?=some (.cells #[.int .i64 g,.string k,.int .i64 d] 149 (0,0)):=qf (qb _ _) (heap_alloc_new _ _)
 have D:((W.alloc (.cells #[.int .i64 g,.string k,.int .i64 d] 149)).alloc (.cells #[.int .i64 0,.int .i64 0] 125)).heap[W.heap.size+1]?=some (.cells #[.int .i64 0,.int .i64 0] 125 (0,0)):=by
  have:=heap_alloc_new (W.alloc (.cells #[.int .i64 g,.string k,.int .i64 d] 149)) (.cells #[.int .i64 0,.int .i64 0] 125)
  rwa [qt]at this
 have HR:Hid (RD w ((W.alloc (.cells #[.int .i64 g,.string k,.int .i64 d] 149)).alloc (.cells #[.int .i64 0,.int .i64 0] 125)) A h S qs):=r.step L;have K:Hid (w.heap.size<=W.heap.size):=r.bel.size;have X:Hid (StOk S):=r.ok;clear r;unfold wv;simp only;go_enter Tryz.func138,Tryz.ntmps138
 go_upto_region 1 with fail
 generalize (W.alloc (.cells #[.int .i64 g,.string k,.int .i64 d] 149)).alloc (.cells #[.int .i64 0,.int .i64 0] 125)=y at L n D HR ⊢
 obtain⟨s,N⟩:∃s,s=W.heap.size:=⟨_,rfl⟩
 rw[<-N]at n D ⊢;have J:Hid (W.heap.size<=s):=Nat.le_of_eq N.symm;have H:Hid (Below W.heap.size W y):=L
 have I:Hid (y.heap[s]?=some (.cells #[.int .i64 g,.string k,.int .i64 d] 149 (0,0))/\y.heap[s+1]?=some (.cells #[.int .i64 0,.int .i64 0] 125 (0,0))):=⟨n,D⟩
 have p0:y.cell? ⟨s,0,none⟩=some (.int .i64 g):=by rw[qe n];rfl
 have p1:y.cell? ⟨s,1,none⟩=some (.string k):=by rw[qe n];rfl
 have p2:y.cell? ⟨s,2,none⟩=some (.int .i64 d):=by rw[qe n];rfl
 clear n D N L;have HC:Hid (Calls Tryz.prog 156 #[.pointer (some ⟨A,0,none⟩),.agg #[.int .i64 g,.string k,.int .i64 d]] y fun e Z=>TokA w y A qs (tokP ⟨g,k,d⟩ S) e Z):=qdy ⟨g,k,d⟩ w y A h S qs HR.out;go_wp2_with fail;refine HC.out.mono ?_;intro e l V;clear HC p0 p1 p2
 cases q:tokP ⟨g,k,d⟩ S with
 | error f =>
  rw[q]at V;obtain⟨rfl,⟨Q,S',o⟩,m⟩:=V;obtain⟨O,U⟩:=f
  have F:Hid (ki ⟨g,k,d⟩ S=.error (O,U)):=by
   show _=_;unfold ki;rw[q]
  have R:(O == 0)=false:=by
   unfold tokP at q
   split at q
   ·cases q
   ·split at q
    ·cases q
     rfl
    ·cases q
  have a1:(O != 0)=true:=by simpa using R
  have u:Hid (RD w l A Q S' qs/\Keep y l):=⟨o,m⟩
  have t2:=m.loc _ _ _ I.out.2 (by decide) (by decide) (by decide) (by decide);have t3:=qf (qb l (.cells #[.int .i64 O,.int .i64 U] 125)) t2;obtain⟨q3,q4,z3,z4⟩:=zg t3
  have HL:Hid (Loc (l.alloc (.cells #[.int .i64 O,.int .i64 U] 125)) (s+1) 125):=⟨_,t3⟩
  clear o m t2 t3 R q;unfold fv;simp only;go_wp2_with fail;refine bodyPost_ret (v:=.agg #[.int .i64 O,.int .i64 U]) (by simp[results,Tryz.results138,go_sem, *]) rfl ?_;exact zf (u.out.1.step (qb _ _)) (((qp H.out).trans u.out.2).trans (qp (qb _ _))) HL.out (Nat.le_succ_of_le J.out) K.out (by rw[F.out];rfl) (fun a h=>by rw[F.out]at h;cases h)
 | ok p =>
  obtain⟨i,a⟩:=p;rw[q]at V;obtain⟨Q,P,rfl,E,o,m⟩:=V;obtain⟨-,hi,-,-⟩:=qcv X.out q
  obtain⟨t,ht⟩:∃t,a.ts[i]?=some t:=⟨a.ts[i],List.getElem?_eq_getElem hi⟩
  obtain⟨a2,b,G,M,-,-,-,c3,fz⟩:=o.tokAt ht;rw[E]at G
  cases G
  have u:Hid (RD w l A Q a qs/\Keep y l/\Q.ta=some ⟨P,0,none⟩/\a.ts[i]?=some t/\a.ls[i]?=some b):=⟨o,m,E,ht,M⟩
  have t1:=m.loc _ _ _ I.out.1 (by decide) (by decide) (by decide) (by decide);have t2:=m.loc _ _ _ I.out.2 (by decide) (by decide) (by decide) (by decide)
  have T:Hid (l.heap[s]?=some (.cells #[.int .i64 g,.string k,.int .i64 d] 149 (0,0))/\l.heap[s+1]?=some (.cells #[.int .i64 0,.int .i64 0] 125 (0,0))):=⟨t1,t2⟩
  have a0:=qo c3 (.cells #[.int .i64 0,.int .i64 0] 125)
  have z5:(l.alloc (.cells #[.int .i64 0,.int .i64 0] 125)).frozen? ⟨P,i * 4+3,none⟩=false:=by
   obtain⟨c,hc⟩:Loc l P 153:=qx (by have:=o.tok;rw[E]at this;exact this) rfl
   exact qi (qf (qb _ _) hc) _
  have C:Hid (ki ⟨g,k,d⟩ S=if b=true then .error (jb ⟨g,k,d⟩) else .ok ⟨a.ws,a.ts,a.ls.set i true,a.lv,a.st,a.ed,a.ex,a.rs⟩):=by
   show _=_;unfold ki;rw[q];simp only[M,Option.getD_some]
  clear o m E ht M hi q fz t1 t2 c3;unfold fv;simp only
  cases b
  ·have F:Hid (ki ⟨g,k,d⟩ S=.ok ⟨a.ws,a.ts,a.ls.set i true,a.lv,a.st,a.ed,a.ex,a.rs⟩):=by
    show _=_;have:=C.out
    simpa using this
   clear C;have z:=(u.out.1.step (qb l (.cells #[.int .i64 0,.int .i64 0] 125))).setTok (t':=t) (b':=true) (j:=3) u.out.2.2.1 u.out.2.2.2.1 u.out.2.2.2.2 (by omega) (.bool true) rfl;rw[qfx u.out.2.2.2.1]at z;have t3:=qf (qb l (.cells #[.int .i64 0,.int .i64 0] 125)) T.out.2;have t4:=z.2.loc _ _ _ t3 (by decide) (by decide) (by decide) (by decide);obtain⟨q3,q4,z3,z4⟩:=zg t4
   have Y:Hid (RD w ((l.alloc (.cells #[.int .i64 0,.int .i64 0] 125)).setCell ⟨P,i * 4+3,none⟩ (.bool true)) A Q ⟨a.ws,a.ts,a.ls.set i true,a.lv,a.st,a.ed,a.ex,a.rs⟩ qs/\Keep (l.alloc (.cells #[.int .i64 0,.int .i64 0] 125)) ((l.alloc (.cells #[.int .i64 0,.int .i64 0] 125)).setCell ⟨P,i * 4+3,none⟩ (.bool true))/\Loc ((l.alloc (.cells #[.int .i64 0,.int .i64 0] 125)).setCell ⟨P,i * 4+3,none⟩ (.bool true)) (s+1) 125):=⟨z.1,z.2,⟨_,t4⟩⟩
   clear z t3 t4;go_wp2_with fail;refine bodyPost_ret (v:=.agg #[.int .i64 0,.int .i64 0]) (by simp[results,Tryz.results138,go_sem, *]) rfl ?_;exact zf Y.out.1 ((((qp H.out).trans u.out.2.1).trans (qp (qb _ _))).trans Y.out.2.1) Y.out.2.2 (Nat.le_succ_of_le J.out) K.out (by rw[F.out];rfl) (fun a h=>by rw[F.out]at h;cases h;rfl)
  ·have F:Hid (ki ⟨g,k,d⟩ S=.error (jb ⟨g,k,d⟩)):=by
    show _=_;have:=C.out
    simpa using this
   clear C;obtain⟨p0,p1,p2⟩:=yy (qf (qb l (.cells #[.int .i64 0,.int .i64 0] 125)) T.out.1);go_wp2_with fail;refine(qaz ⟨g,k,d⟩ _).mono ?_;rintro e W3 ⟨rfl,L⟩;have B:Hid (Below l.heap.size l W3):=qd (qb _ _) L;clear L p0 p1 p2 a0 z5;obtain⟨q3,q4,z3,z4⟩:=zg (qf B.out T.out.2);unfold fv jb;simp only;go_wp2_with fail;refine bodyPost_ret (v:=.agg #[.int .i64 7,.int .i64 d]) (by simp[results,Tryz.results138,go_sem, *]) rfl ?_;exact zf (u.out.1.step B.out) (((qp H.out).trans u.out.2.1).trans (qp B.out)) ⟨_,qf B.out T.out.2⟩ (Nat.le_succ_of_le J.out) K.out (by rw[F.out];rfl) (fun a h=>by rw[F.out]at h;cases h)
theorem Did.step{w W b a:World}{f:Nat}{qs:List (Ru × Option Addr × Nat)}{R:Except Flt St}{e:Ending}(d:Did w W f qs R e b)(c:Below b.heap.size b a):Did w W f qs R e a:=by
 obtain⟨h,g,i,j,k,l⟩:=d;exact⟨h,g,i,j.step c,k.trans (qp c),l⟩
theorem qkf(a:Int)(cr ca:Nat)(x:Wd)(w W:World)(A:Nat)(h:RHd)(S:St)(qs:List (Ru × Option Addr × Nat))(r:RD w W A h S qs)(a4:W.heap[cr]?=some (.cells #[.pointer (some ⟨A,0,none⟩)] 150 (0,0)))(a3:W.heap[ca]?=some (.cells #[.int .i64 a] 3 (0,0))):
  Calls Tryz.prog 158 #[wv x,.pointer (some ⟨cr,0,none⟩),.pointer (some ⟨ca,0,none⟩)] W fun e W'=>Did w W A qs (levP (S.lv:Int) a x S) e W':=by
 obtain⟨k,m,g⟩:=x;have X:Below W.heap.size W ((W.alloc (.cells #[.int .i64 k,.string m,.int .i64 g] 149)).alloc (.cells #[.int .i64 0,.int .i64 0] 125)):=qd (qb _ _) (qb _ _);have s:((W.alloc (.cells #[.int .i64 k,.string m,.int .i64 g] 149)).alloc (.cells #[.int .i64 0,.int .i64 0] 125)).heap[W.heap.size]?=some (.cells #[.int .i64 k,.string m,.int .i64 g] 149 (0,0)):=qf (qb _ _) (heap_alloc_new _ _)
 have I:((W.alloc (.cells #[.int .i64 k,.string m,.int .i64 g] 149)).alloc (.cells #[.int .i64 0,.int .i64 0] 125)).heap[W.heap.size+1]?=some (.cells #[.int .i64 0,.int .i64 0] 125 (0,0)):=by
  have:=heap_alloc_new (W.alloc (.cells #[.int .i64 k,.string m,.int .i64 g] 149)) (.cells #[.int .i64 0,.int .i64 0] 125)
  rwa [qt]at this
 have HR:Hid (RD w ((W.alloc (.cells #[.int .i64 k,.string m,.int .i64 g] 149)).alloc (.cells #[.int .i64 0,.int .i64 0] 125)) A h S qs):=r.step X;have T:Hid (w.heap.size<=W.heap.size):=r.bel.size;have a0:Hid (StOk S):=r.ok
 have Q:Hid (∀V:World,Keep W V->V.heap[cr]?=some (.cells #[.pointer (some ⟨A,0,none⟩)] 150 (0,0))/\V.heap[ca]?=some (.cells #[.int .i64 a] 3 (0,0))):=fun V hV=>⟨hV.loc _ _ _ a4 (by decide) (by decide) (by decide) (by decide),hV.loc _ _ _ a3 (by decide) (by decide) (by decide) (by decide)⟩
 clear a4 a3;clear r;unfold wv;simp only;go_enter Tryz.func158,Tryz.ntmps158
 go_upto_region 1 with fail
 generalize (W.alloc (.cells #[.int .i64 k,.string m,.int .i64 g] 149)).alloc (.cells #[.int .i64 0,.int .i64 0] 125)=D at X s I HR ⊢
 obtain⟨E,Y⟩:∃E,E=W.heap.size:=⟨_,rfl⟩
 rw[<-Y]at s I ⊢;have R:Hid (W.heap.size<=E):=Nat.le_of_eq Y.symm;have O:Hid (Below W.heap.size W D):=X
 have P:Hid (D.heap[E]?=some (.cells #[.int .i64 k,.string m,.int .i64 g] 149 (0,0))/\D.heap[E+1]?=some (.cells #[.int .i64 0,.int .i64 0] 125 (0,0))):=⟨s,I⟩
 have p0:D.cell? ⟨E,0,none⟩=some (.int .i64 k):=by rw[qe s];rfl
 have p1:D.cell? ⟨E,1,none⟩=some (.string m):=by rw[qe s];rfl
 have p2:D.cell? ⟨E,2,none⟩=some (.int .i64 g):=by rw[qe s];rfl
 clear s I Y X
 have s0:D.cell? ⟨cr,0,none⟩=some (.pointer (some ⟨A,0,none⟩)):=by rw[qe (Q.out _ (qp O.out)).1];rfl
 have HC:Hid (Calls Tryz.prog 156 #[.pointer (some ⟨A,0,none⟩),.agg #[.int .i64 k,.string m,.int .i64 g]] D fun e W'=>TokA w D A qs (tokP ⟨k,m,g⟩ S) e W'):=qdy ⟨k,m,g⟩ w D A h S qs HR.out;go_wp2_with fail;refine HC.out.mono ?_;intro e d hA;clear HC p0 p1 p2 s0
 cases y:tokP ⟨k,m,g⟩ S with
 | error f =>
  rw[y]at hA;obtain⟨rfl,⟨h',S',u⟩,q⟩:=hA;obtain⟨f1,f2⟩:=f
  have L:Hid (levP (S.lv:Int) a ⟨k,m,g⟩ S=.error (f1,f2)):=by
   show _=_;unfold levP;rw[y]
  have a5:(f1 == 0)=false:=by
   unfold tokP at y
   split at y
   ·cases y
   ·split at y
    ·cases y
     rfl
    ·cases y
  have b3:(f1 != 0)=true:=by simpa using a5
  have B:Hid (RD w d A h' S' qs/\Keep D d):=⟨u,q⟩
  have t2:=q.loc _ _ _ P.out.2 (by decide) (by decide) (by decide) (by decide);have t3:=qf (qb d (.cells #[.int .i64 f1,.int .i64 f2] 125)) t2;obtain⟨q3,q4,z3,z4⟩:=zg t3
  have HL:Hid (Loc (d.alloc (.cells #[.int .i64 f1,.int .i64 f2] 125)) (E+1) 125):=⟨_,t3⟩
  clear u q t2 t3 a5 y;unfold fv;simp only;go_wp2_with fail;refine bodyPost_ret (v:=.agg #[.int .i64 f1,.int .i64 f2]) (by simp[results,Tryz.results158,go_sem, *]) rfl ?_;exact zf (B.out.1.step (qb _ _)) (((qp O.out).trans B.out.2).trans (qp (qb _ _))) HL.out (Nat.le_succ_of_le R.out) T.out (by rw[L.out];rfl) (fun c h=>by rw[L.out]at h;cases h)
 | ok p =>
  obtain⟨i,c⟩:=p;rw[y]at hA;obtain⟨h',G,rfl,K,u,q⟩:=hA;obtain⟨-,hi,-,-⟩:=qcv a0.out y
  obtain⟨t,ht⟩:∃t,c.ts[i]?=some t:=⟨c.ts[i],List.getElem?_eq_getElem hi⟩
  obtain⟨b5,b,N,a8,-,c1,c2,-,-⟩:=u.tokAt ht;rw[K]at N
  cases N
  have B:Hid (RD w d A h' c qs/\Keep D d/\h'.ta=some ⟨G,0,none⟩/\c.ts[i]?=some t/\c.ls[i]?=some b):=⟨u,q,K,ht,a8⟩
  have a6:Keep W d:=(qp O.out).trans q;have t1:=q.loc _ _ _ P.out.1 (by decide) (by decide) (by decide) (by decide);have t2:=q.loc _ _ _ P.out.2 (by decide) (by decide) (by decide) (by decide)
  have Z:Hid (d.heap[E]?=some (.cells #[.int .i64 k,.string m,.int .i64 g] 149 (0,0))/\d.heap[E+1]?=some (.cells #[.int .i64 0,.int .i64 0] 125 (0,0))/\Keep W d):=⟨t1,t2,a6⟩
  have a1:=qo c1 (.cells #[.int .i64 0,.int .i64 0] 125);have a2:=qo c2 (.cells #[.int .i64 0,.int .i64 0] 125);have a7:Loc d G 153:=qx (by have:=u.tok;rw[K]at this;exact this) rfl
  obtain⟨b4,U⟩:=a7;have z5:(d.alloc (.cells #[.int .i64 0,.int .i64 0] 125)).frozen? ⟨G,i * 4+1,none⟩=false:=qi (qf (qb _ _) U) _;have z6:(d.alloc (.cells #[.int .i64 0,.int .i64 0] 125)).frozen? ⟨G,i * 4+2,none⟩=false:=qi (qf (qb _ _) U) _;obtain⟨a9,b0,b1,M⟩:=qcv a0.out y;have b2:Hid (c.lv=S.lv):=M
  have F:Hid (levP (S.lv:Int) a ⟨k,m,g⟩ S=if t.l≠0 then .error (jb ⟨k,m,g⟩) else .ok ⟨c.ws,c.ts.set i ⟨t.n,(S.lv:Int),a⟩,c.ls,c.lv,c.st,c.ed,c.ex,c.rs⟩):=by
   show _=_;unfold levP;rw[y]
   have e:tkAt c.ts i=t:=by unfold tkAt;rw[ht];rfl
   simp only[e]
  obtain⟨tn,tl,tA⟩:=t;simp only at c1 c2 a1 a2 F;clear u q K ht a8 hi y t1 t2 c1 c2 a9 b0 b1 M a6 U;unfold fv;simp only
  by_cases C:tl=0
  ·have hq:(tl != 0)=false:=by simp[C]
   have L:Hid (levP (S.lv:Int) a ⟨k,m,g⟩ S=.ok ⟨c.ws,c.ts.set i ⟨tn,(S.lv:Int),a⟩,c.ls,c.lv,c.st,c.ed,c.ex,c.rs⟩):=by
    show _=_;have:=F.out;rw[if_neg (by simpa using C)]at this;exact this
   clear F C;have z:=(B.out.1.step (qb d (.cells #[.int .i64 0,.int .i64 0] 125))).setTok (t':=⟨tn,(S.lv:Int),tA⟩) (b':=b) (j:=1) B.out.2.2.1 B.out.2.2.2.1 B.out.2.2.2.2 (by omega) (.int .i64 (S.lv:Int)) rfl;have o:=z.1.setTok (t:=⟨tn,(S.lv:Int),tA⟩) (t':=⟨tn,(S.lv:Int),a⟩) (b:=b) (b':=b) (i:=i) (j:=2) B.out.2.2.1 (by simp only;rw[List.getElem?_set_self (List.getElem?_eq_some_iff.1 B.out.2.2.2.1).1]) (by simp only;rw[List.getElem?_set_self (List.getElem?_eq_some_iff.1 B.out.2.2.2.2).1]) (by omega) (.int .i64 a) rfl
   simp only[List.set_set]at o;rw[qfx B.out.2.2.2.2]at o;have J:Keep W (d.alloc (.cells #[.int .i64 0,.int .i64 0] 125)):=Z.out.2.2.trans (qp (qb _ _))
   have s0:(d.alloc (.cells #[.int .i64 0,.int .i64 0] 125)).cell? ⟨cr,0,none⟩=some (.pointer (some ⟨A,0,none⟩)):=by rw[qe (Q.out _ J).1];rfl
   have s1:(d.alloc (.cells #[.int .i64 0,.int .i64 0] 125)).cell? ⟨ca,0,none⟩=some (.int .i64 a):=by rw[qe (Q.out _ J).2];rfl
   have s2:(d.alloc (.cells #[.int .i64 0,.int .i64 0] 125)).cell? ⟨A,2,none⟩=some (.int .i64 (S.lv:Int)):=by
    rw[qe (B.out.1.step (qb _ _)).box,<-b2.out];rfl
   have t3:=qf (qb d (.cells #[.int .i64 0,.int .i64 0] 125)) Z.out.2.1;have t4:=o.2.loc _ _ _ (z.2.loc _ _ _ t3 (by decide) (by decide) (by decide) (by decide)) (by decide) (by decide) (by decide) (by decide);obtain⟨q3,q4,z3,z4⟩:=zg t4
   have HS:Hid (RD w (((d.alloc (.cells #[.int .i64 0,.int .i64 0] 125)).setCell ⟨G,i * 4+1,none⟩ (.int .i64 (S.lv:Int))).setCell ⟨G,i * 4+2,none⟩ (.int .i64 a)) A h' ⟨c.ws,c.ts.set i ⟨tn,(S.lv:Int),a⟩,c.ls,c.lv,c.st,c.ed,c.ex,c.rs⟩ qs/\Keep W (((d.alloc (.cells #[.int .i64 0,.int .i64 0] 125)).setCell ⟨G,i * 4+1,none⟩ (.int .i64 (S.lv:Int))).setCell ⟨G,i * 4+2,none⟩ (.int .i64 a))/\Loc (((d.alloc (.cells #[.int .i64 0,.int .i64 0] 125)).setCell ⟨G,i * 4+1,none⟩ (.int .i64 (S.lv:Int))).setCell ⟨G,i * 4+2,none⟩ (.int .i64 a)) (E+1) 125):=⟨o.1,(J.trans z.2).trans o.2,⟨_,t4⟩⟩
   clear z o t3 t4 J
   go_upto_region 6 with fail
   go_region
   all_goals
    go_wp2_with fail;refine bodyPost_ret (v:=.agg #[.int .i64 0,.int .i64 0]) (by simp[results,Tryz.results158,go_sem, *]) rfl ?_;exact(zf HS.out.1 HS.out.2.1 HS.out.2.2 (Nat.le_succ_of_le R.out) T.out (by rw[L.out];rfl) (fun c h=>by rw[L.out]at h;cases h;rfl)).step (qk _)
  ·have hq:(tl != 0)=true:=by simp[C]
   have L:Hid (levP (S.lv:Int) a ⟨k,m,g⟩ S=.error (jb ⟨k,m,g⟩)):=by
    show _=_;have:=F.out;rw[if_pos C]at this;exact this
   clear F C;obtain⟨p0,p1,p2⟩:=yy (qf (qb d (.cells #[.int .i64 0,.int .i64 0] 125)) Z.out.1);go_wp2_with fail;refine(qaz ⟨k,m,g⟩ _).mono ?_;rintro e W3 ⟨rfl,X⟩;have H:Hid (Below d.heap.size d W3):=qd (qb _ _) X;clear X p0 p1 p2 a1 a2 z5 z6;obtain⟨q3,q4,z3,z4⟩:=zg (qf H.out Z.out.2.1);unfold fv jb;simp only;go_wp2_with fail;refine bodyPost_ret (v:=.agg #[.int .i64 7,.int .i64 g]) (by simp[results,Tryz.results158,go_sem, *]) rfl ?_;exact zf (B.out.1.step H.out) (Z.out.2.2.trans (qp H.out)) ⟨_,qf H.out Z.out.2.1⟩ (Nat.le_succ_of_le R.out) T.out (by rw[L.out];rfl) (fun c h=>by rw[L.out]at h;cases h)
theorem ju(k:Int)(S:St):(S.hd.k=k/\kv k S=.ok (S.hd,S.next)/\takeW k S=S.hd/\takeS k S=S.next/\jp k S=(0,0))\/(S.hd.k≠k/\kv k S=.error (zj S.hd)/\jp k S=zj S.hd/\takeS k S=S):=by
 by_cases h:S.hd.k=k
 ·left;unfold kv takeW takeS jp;rw[if_pos h,if_pos h,if_pos h,if_pos h];exact⟨h,rfl,rfl,rfl,rfl⟩
 ·right;unfold kv takeS jp;rw[if_neg h,if_neg h,if_neg h];exact⟨h,rfl,rfl,rfl⟩
theorem qkg{x:Wd}{S:St}{f:Flt}(h:tokP x S=.error f):f=zj x:=by
 unfold tokP at h
 split at h
 ·cases h
 ·split at h
  ·cases h;rfl
  ·cases h
theorem qie{x:Wd}{S:St}{f:Flt}(h:ki x S=.error f):f.1≠0:=by
 unfold ki at h
 split at h
 ·rename_i f' h'
  cases h
  rw[qkg h'];show(1:Int)≠0
  decide
 ·split at h
  ·cases h
   show(7:Int)≠0
   decide
  ·cases h
theorem qkh{l a:Int}{x:Wd}{S:St}{f:Flt}(h:levP l a x S=.error f):f.1≠0:=by
 unfold levP at h
 split at h
 ·rename_i f' h'
  cases h
  rw[qkg h'];show(1:Int)≠0
  decide
 ·split at h
  ·cases h
   show(7:Int)≠0
   decide
  ·cases h
theorem qhs(w W:World)(d:Nat)(h:RHd)(S:St)(qs:List (Ru × Option Addr × Nat))(r:RD w W d h S qs)(N:Nat)(b0:S.ws.length<=N):
  Calls Tryz.prog 137 #[.pointer (some ⟨d,0,none⟩),.func (.func 138) #[.pointer (some ⟨d,0,none⟩)] #[]] W fun e W'=>Did w W d qs (zt (ki) N S) e W':=by
 have b1:Loc W d 139:=⟨_,r.box⟩
 have HR:Hid (RD w (W.alloc (.cells #[.int .i64 0,.int .i64 0] 125)) d h S qs):=r.step (qb _ _);have a0:Hid (w.heap.size<=W.heap.size):=r.bel.size;have K:(W.alloc (.cells #[.int .i64 0,.int .i64 0] 125)).heap[W.heap.size]?=some (.cells #[.int .i64 0,.int .i64 0] 125 (0,0)):=heap_alloc_new _ _;have G:Hid (Keep W (W.alloc (.cells #[.int .i64 0,.int .i64 0] 125))):=qp (qb _ _)
 obtain⟨R,hR⟩:∃R,zt (ki) N S=R:=⟨_,rfl⟩
 rw[hR];have a3:Hid (zt (ki) N S=R):=hR;clear r b1 hR;go_enter Tryz.func137,Tryz.ntmps137
 go_upto_block 0 with fail
 generalize W.alloc (.cells #[.int .i64 0,.int .i64 0] 125)=D at HR K G ⊢
 obtain⟨nb,a2⟩:∃nb,nb=W.heap.size:=⟨_,rfl⟩
 rw[<-a2]at K ⊢;have Z:Hid (W.heap.size<=nb):=Nat.le_of_eq a2.symm;have V:Hid (D.heap[nb]?=some (.cells #[.int .i64 0,.int .i64 0] 125 (0,0))):=K;clear K a2;go_wp2_with fail
 go_loopg [5] N (fun kx s5 wr=>∃f,f<=kx/\Hid (∃b O,b.ws.length<=f/\RD w wr d O b qs/\Keep D wr/\zt (ki) f b=R/\b.lv=S.lv))
 case atStart=>exact⟨N,Nat.le_refl _,(⟨S,h,b0,HR.out,Keep.refl _,a3.out,rfl⟩:∃b O,b.ws.length<=N/\RD w D d O b qs/\Keep D D/\zt (ki) N b=R/\b.lv=S.lv)⟩
 case round =>
  obtain⟨f,b3,J⟩:=hrel;obtain⟨b,O,Q,L,a6,hN,a7⟩:=J.out;clear J HR a3
  obtain⟨q,rfl⟩:∃q,f=q+1:=⟨f - 1,by have:=L.ok.ends.pos;omega⟩
  have C:Hid (Calls Tryz.prog 143 #[.pointer (some ⟨d,0,none⟩),.int .i64 1] wr fun e W'=>e=.returned (.tuple #[wv (takeW 1 b),fv (jp 1 b)])/\Went w wr d (takeS 1 b) qs W'):=jx 1 (by decide) w wr d O b qs L
  have E:Hid (b.ws.length<=q+1/\RD w wr d O b qs/\Keep D wr/\zt (ki) (q+1) b=R/\b.lv=S.lv):=⟨Q,L,a6,hN,a7⟩
  clear Q L a6 hN a7;unfold wv fv at C
  rcases ju 1 b with ⟨hk,hP,hW,hS,hF⟩ | ⟨hk,hP,hF,hS⟩
  ·rw[hW,hS,hF]at C
   generalize hx:b.hd=x at *
   obtain⟨t,u,l⟩:=x;simp only at C
   have a9:Hid (kv 1 b=.ok (⟨t,u,l⟩,b.next)/\b.hd=⟨t,u,l⟩):=⟨hP,hx⟩
   clear hk hP hW hS hF hx;go_wp2_with fail;refine C.out.mono ?_;rintro e j ⟨rfl,c⟩
   have o:Hid (Went w wr d b.next qs j/\Keep D j):=⟨c,E.out.2.2.1.trans (c.keep ⟨_,E.out.2.1.box⟩)⟩
   clear c C;obtain⟨h2,n⟩:=o.out.1.rd;have m:Below j.heap.size j ((j.alloc (.cells #[.int .i64 t,.string u,.int .i64 l] 149)).alloc (.cells #[.int .i64 0,.int .i64 0] 125)):=qd (qb _ _) (qb _ _)
   have B:Hid (RD w ((j.alloc (.cells #[.int .i64 t,.string u,.int .i64 l] 149)).alloc (.cells #[.int .i64 0,.int .i64 0] 125)) d h2 b.next qs/\Keep D ((j.alloc (.cells #[.int .i64 t,.string u,.int .i64 l] 149)).alloc (.cells #[.int .i64 0,.int .i64 0] 125))):=⟨n.step m,o.out.2.trans (qp m)⟩
   clear n m;have M:Hid (Calls Tryz.prog 138 #[.pointer (some ⟨d,0,none⟩),.agg #[.int .i64 t,.string u,.int .i64 l]] ((j.alloc (.cells #[.int .i64 t,.string u,.int .i64 l] 149)).alloc (.cells #[.int .i64 0,.int .i64 0] 125)) fun e W'=>Did w ((j.alloc (.cells #[.int .i64 t,.string u,.int .i64 l] 149)).alloc (.cells #[.int .i64 0,.int .i64 0] 125)) d qs (ki ⟨t,u,l⟩ b.next) e W'):=qke ⟨t,u,l⟩ w _ d h2 b.next qs B.out.1;go_wp2_with fail;refine M.out.mono ?_;intro e F hD;obtain⟨h3,p,rfl,T,P,a1⟩:=hD
   have i:Hid (RD w F d h3 p qs/\Keep D F):=⟨T,B.out.2.trans P⟩
   clear T P M
   have I:zt (ki) (q+1) b=(match ki ⟨t,u,l⟩ b.next with | .error e=>.error e | .ok S2=>if S2.hd.k=1 then zt (ki) q S2 else .ok S2):=by
    conv=>lhs;unfold zt
    rw[a9.out.1];rfl
   cases hL:ki ⟨t,u,l⟩ b.next with
   | error g =>
    obtain⟨g1,g2⟩:=g;have hg:g1≠0:=qie (f:=(g1,g2)) hL
    have b4:(g1 != 0)=true:=by simpa using hg
    have X:Hid (R=.error (g1,g2)):=by
     show _=_;rw[<-E.out.2.2.2.1,I,hL]
    have t2:=qf (qb F (.cells #[.int .i64 g1,.int .i64 g2] 125)) (i.out.2.loc _ _ _ V.out (by decide) (by decide) (by decide) (by decide));obtain⟨q3,q4,z3,z4⟩:=zg t2
    have Y:Hid (Loc (F.alloc (.cells #[.int .i64 g1,.int .i64 g2] 125)) nb 125):=⟨_,t2⟩
    clear I hL a1 hg t2;unfold kf fv;simp only;go_wp2_with fail;refine bodyPost_ret (v:=.agg #[.int .i64 g1,.int .i64 g2]) (by simp[results,Tryz.results137,go_sem, *]) rfl ?_;exact zf (i.out.1.step (qb _ _)) ((G.out.trans i.out.2).trans (qp (qb _ _))) Y.out Z.out a0.out (by rw[X.out];rfl) (fun b h=>by rw[X.out]at h;cases h)
   | ok S4 =>
    have e3:p=S4:=a1 S4 hL;subst e3;have a5:=qb F (.cells #[.int .i64 0,.int .i64 0] 125);have H:Hid (Calls Tryz.prog 123 #[.pointer (some ⟨d,0,none⟩)] (F.alloc (.cells #[.int .i64 0,.int .i64 0] 125)) fun e W'=>e=.returned (wv p.hd)/\Below (F.alloc (.cells #[.int .i64 0,.int .i64 0] 125)).heap.size (F.alloc (.cells #[.int .i64 0,.int .i64 0] 125)) W'):=kp w _ d h3 p qs (i.out.1.step a5);have a8:=qpf B.out.1.ok hL
    have a4:Hid (p.ws.length<=q/\p.lv=S.lv):=by
     obtain⟨o1,o2,o3⟩:=a8;have n1:=j4 E.out.2.1.ok;refine⟨?_,?_⟩
     ·rw[o2];have:=E.out.1;omega
     ·rw[o3];exact E.out.2.2.2.2
    have A:Hid (R=if p.hd.k=1 then zt (ki) q p else .ok p):=by
     show _=_;rw[<-E.out.2.2.2.1,I,hL]
    clear I hL a1 a8 a5;unfold wv at H
    generalize hy:p.hd=y at *
    obtain⟨U,yt,ya⟩:=y;simp only at H A;have b2:=qf9 U ya yt;unfold kf fv;simp only;go_wp2_with fail;refine H.out.mono ?_;rintro e W4 ⟨rfl,hB⟩;have z:Hid (Below F.heap.size F W4):=qd (qb _ _) hB;clear hB H hy
    by_cases s:U=1
    ·have hq:(U != 1)=false:=by simp[s]
     have X:Hid (zt (ki) q p=R):=by
      show _=_;have:=A.out;rw[if_pos s]at this;exact this.symm
     clear s A;go_wp2_with fail;go_roundg q
     case measure=>omega
     case rel=>exact⟨q,Nat.le_refl _,(⟨p,h3,a4.out.1,i.out.1.step z.out,i.out.2.trans (qp z.out),X.out,a4.out.2⟩:∃b O,b.ws.length<=q/\RD w W4 d O b qs/\Keep D W4/\zt (ki) q b=R/\b.lv=S.lv)⟩
    ·have hq:(U != 1)=true:=by simp[s]
     have X:Hid (R=.ok p):=by
      show _=_;have:=A.out;rw[if_neg s]at this;exact this
     clear s A;have t2:=qf z.out (i.out.2.loc _ _ _ V.out (by decide) (by decide) (by decide) (by decide));obtain⟨q3,q4,z3,z4⟩:=zg t2
     have Y:Hid (Loc W4 nb 125):=⟨_,t2⟩
     clear t2;go_wp2_with fail;refine bodyPost_ret (v:=.agg #[.int .i64 0,.int .i64 0]) (by simp[results,Tryz.results137,go_sem, *]) rfl ?_;exact zf (i.out.1.step z.out) ((G.out.trans i.out.2).trans (qp z.out)) Y.out Z.out a0.out (by rw[X.out];rfl) (fun b h=>by rw[X.out]at h;cases h;rfl)
  ·have HN:Hid (R=.error (zj b.hd)):=by
    show _=_;rw[<-E.out.2.2.2.1]
    conv=>lhs;unfold zt
    rw[hP]
   rw[hF,hS]at C;unfold zj at C HN;generalize takeW 1 b=y at C
   generalize b.hd.a=l at *
   obtain⟨U,yt,ya⟩:=y;simp only at C;clear hk hP hF hS;go_wp2_with fail;refine C.out.mono ?_;rintro e j ⟨rfl,c⟩
   have o:Hid (Went w wr d b qs j/\Keep D j):=⟨c,E.out.2.2.1.trans (c.keep ⟨_,E.out.2.1.box⟩)⟩
   clear c C;have m:Below j.heap.size j ((j.alloc (.cells #[.int .i64 U,.string yt,.int .i64 ya] 149)).alloc (.cells #[.int .i64 1,.int .i64 l] 125)):=qd (qb _ _) (qb _ _);have t2:=qf m (o.out.2.loc _ _ _ V.out (by decide) (by decide) (by decide) (by decide));obtain⟨q3,q4,z3,z4⟩:=zg t2
   have Y:Hid (Loc ((j.alloc (.cells #[.int .i64 U,.string yt,.int .i64 ya] 149)).alloc (.cells #[.int .i64 1,.int .i64 l] 125)) nb 125/\Below j.heap.size j ((j.alloc (.cells #[.int .i64 U,.string yt,.int .i64 ya] 149)).alloc (.cells #[.int .i64 1,.int .i64 l] 125))):=⟨⟨_,t2⟩,m⟩
   clear t2 m;go_wp2_with fail;refine bodyPost_ret (v:=.agg #[.int .i64 1,.int .i64 l]) (by simp[results,Tryz.results137,go_sem, *]) rfl ?_;obtain⟨h2,n⟩:=o.out.1.rd;exact zf (n.step Y.out.2) ((G.out.trans o.out.2).trans (qp Y.out.2)) Y.out.1 Z.out a0.out (by rw[HN.out];rfl) (fun b h=>by rw[HN.out]at h;cases h)
theorem qht(a:Int)(cr ca:Nat)(w W:World)(d:Nat)(h:RHd)(S:St)(qs:List (Ru × Option Addr × Nat))(r:RD w W d h S qs)(N:Nat)(b4:S.ws.length<=N)(a8:W.heap[cr]?=some (.cells #[.pointer (some ⟨d,0,none⟩)] 150 (0,0)))(a7:W.heap[ca]?=some (.cells #[.int .i64 a] 3 (0,0))):
  Calls Tryz.prog 137 #[.pointer (some ⟨d,0,none⟩),.func (.func 158) #[] #[.pointer (some ⟨cr,0,none⟩),.pointer (some ⟨ca,0,none⟩)]] W fun e W'=>Did w W d qs (zt (levP (S.lv:Int) a) N S) e W':=by
 have b5:Loc W d 139:=⟨_,r.box⟩
 have HR:Hid (RD w (W.alloc (.cells #[.int .i64 0,.int .i64 0] 125)) d h S qs):=r.step (qb _ _);have a1:Hid (w.heap.size<=W.heap.size):=r.bel.size;have K:(W.alloc (.cells #[.int .i64 0,.int .i64 0] 125)).heap[W.heap.size]?=some (.cells #[.int .i64 0,.int .i64 0] 125 (0,0)):=heap_alloc_new _ _;have C:Hid (Keep W (W.alloc (.cells #[.int .i64 0,.int .i64 0] 125))):=qp (qb _ _)
 have b2:Hid (∀V:World,Keep W V->V.heap[cr]?=some (.cells #[.pointer (some ⟨d,0,none⟩)] 150 (0,0))/\V.heap[ca]?=some (.cells #[.int .i64 a] 3 (0,0))):=fun V hV=>⟨hV.loc _ _ _ a8 (by decide) (by decide) (by decide) (by decide),hV.loc _ _ _ a7 (by decide) (by decide) (by decide) (by decide)⟩
 clear a8 a7
 obtain⟨R,hR⟩:∃R,zt (levP (S.lv:Int) a) N S=R:=⟨_,rfl⟩
 rw[hR];have a4:Hid (zt (levP (S.lv:Int) a) N S=R):=hR;clear r b5 hR;go_enter Tryz.func137,Tryz.ntmps137
 go_upto_block 0 with fail
 generalize W.alloc (.cells #[.int .i64 0,.int .i64 0] 125)=F at HR K C ⊢
 obtain⟨nb,a3⟩:∃nb,nb=W.heap.size:=⟨_,rfl⟩
 rw[<-a3]at K ⊢;have a0:Hid (W.heap.size<=nb):=Nat.le_of_eq a3.symm;have X:Hid (F.heap[nb]?=some (.cells #[.int .i64 0,.int .i64 0] 125 (0,0))):=K;clear K a3;go_wp2_with fail
 go_loopg [5] N (fun kx s5 wr=>∃f,f<=kx/\Hid (∃b O,b.ws.length<=f/\RD w wr d O b qs/\Keep F wr/\zt (levP (S.lv:Int) a) f b=R/\b.lv=S.lv))
 case atStart=>exact⟨N,Nat.le_refl _,(⟨S,h,b4,HR.out,Keep.refl _,a4.out,rfl⟩:∃b O,b.ws.length<=N/\RD w F d O b qs/\Keep F F/\zt (levP (S.lv:Int) a) N b=R/\b.lv=S.lv)⟩
 case round =>
  obtain⟨f,b7,J⟩:=hrel;obtain⟨b,O,Q,L,a9,hN,b0⟩:=J.out;clear J HR a4
  obtain⟨s,rfl⟩:∃s,f=s+1:=⟨f - 1,by have:=L.ok.ends.pos;omega⟩
  have E:Hid (Calls Tryz.prog 143 #[.pointer (some ⟨d,0,none⟩),.int .i64 1] wr fun e W'=>e=.returned (.tuple #[wv (takeW 1 b),fv (jp 1 b)])/\Went w wr d (takeS 1 b) qs W'):=jx 1 (by decide) w wr d O b qs L
  have B:Hid (b.ws.length<=s+1/\RD w wr d O b qs/\Keep F wr/\zt (levP (S.lv:Int) a) (s+1) b=R/\b.lv=S.lv):=⟨Q,L,a9,hN,b0⟩
  clear Q L a9 hN b0;unfold wv fv at E
  rcases ju 1 b with ⟨hk,hP,hW,hS,hF⟩ | ⟨hk,hP,hF,hS⟩
  ·rw[hW,hS,hF]at E
   generalize hx:b.hd=x at *
   obtain⟨u,z,l⟩:=x;simp only at E
   have b3:Hid (kv 1 b=.ok (⟨u,z,l⟩,b.next)/\b.hd=⟨u,z,l⟩):=⟨hP,hx⟩
   clear hk hP hW hS hF hx;go_wp2_with fail;refine E.out.mono ?_;rintro e j ⟨rfl,c⟩
   have p:Hid (Went w wr d b.next qs j/\Keep F j):=⟨c,B.out.2.2.1.trans (c.keep ⟨_,B.out.2.1.box⟩)⟩
   clear c E;obtain⟨h2,o⟩:=p.out.1.rd;have m:Below j.heap.size j ((j.alloc (.cells #[.int .i64 u,.string z,.int .i64 l] 149)).alloc (.cells #[.int .i64 0,.int .i64 0] 125)):=qd (qb _ _) (qb _ _)
   have n:Hid (RD w ((j.alloc (.cells #[.int .i64 u,.string z,.int .i64 l] 149)).alloc (.cells #[.int .i64 0,.int .i64 0] 125)) d h2 b.next qs/\Keep F ((j.alloc (.cells #[.int .i64 u,.string z,.int .i64 l] 149)).alloc (.cells #[.int .i64 0,.int .i64 0] 125))):=⟨o.step m,p.out.2.trans (qp m)⟩
   clear o m
   have M:Hid (Calls Tryz.prog 158 #[.agg #[.int .i64 u,.string z,.int .i64 l],.pointer (some ⟨cr,0,none⟩),.pointer (some ⟨ca,0,none⟩)] ((j.alloc (.cells #[.int .i64 u,.string z,.int .i64 l] 149)).alloc (.cells #[.int .i64 0,.int .i64 0] 125)) fun e W'=>Did w ((j.alloc (.cells #[.int .i64 u,.string z,.int .i64 l] 149)).alloc (.cells #[.int .i64 0,.int .i64 0] 125)) d qs (levP (S.lv:Int) a ⟨u,z,l⟩ b.next) e W'):=by
    have hc:=b2.out _ (C.out.trans n.out.2);have:=qkf a cr ca ⟨u,z,l⟩ w _ d h2 b.next qs n.out.1 hc.1 hc.2;rw[show b.next.lv=S.lv from B.out.2.2.2.2]at this;exact this
   go_wp2_with fail;refine M.out.mono ?_;intro e G hD;obtain⟨h3,q,rfl,T,P,a2⟩:=hD
   have i:Hid (RD w G d h3 q qs/\Keep F G):=⟨T,n.out.2.trans P⟩
   clear T P M
   have I:zt (levP (S.lv:Int) a) (s+1) b=(match levP (S.lv:Int) a ⟨u,z,l⟩ b.next with | .error e=>.error e | .ok S2=>if S2.hd.k=1 then zt (levP (S.lv:Int) a) s S2 else .ok S2):=by
    conv=>lhs;unfold zt
    rw[b3.out.1];rfl
   cases hL:levP (S.lv:Int) a ⟨u,z,l⟩ b.next with
   | error g =>
    obtain⟨g1,g2⟩:=g;have hg:g1≠0:=qkh (f:=(g1,g2)) hL
    have b8:(g1 != 0)=true:=by simpa using hg
    have Y:Hid (R=.error (g1,g2)):=by
     show _=_;rw[<-B.out.2.2.2.1,I,hL]
    have t2:=qf (qb G (.cells #[.int .i64 g1,.int .i64 g2] 125)) (i.out.2.loc _ _ _ X.out (by decide) (by decide) (by decide) (by decide));obtain⟨q3,q4,z3,z4⟩:=zg t2
    have Z:Hid (Loc (G.alloc (.cells #[.int .i64 g1,.int .i64 g2] 125)) nb 125):=⟨_,t2⟩
    clear I hL a2 hg t2;unfold kf fv;simp only;go_wp2_with fail;refine bodyPost_ret (v:=.agg #[.int .i64 g1,.int .i64 g2]) (by simp[results,Tryz.results137,go_sem, *]) rfl ?_;exact zf (i.out.1.step (qb _ _)) ((C.out.trans i.out.2).trans (qp (qb _ _))) Z.out a0.out a1.out (by rw[Y.out];rfl) (fun b h=>by rw[Y.out]at h;cases h)
   | ok S4 =>
    have e3:q=S4:=a2 S4 hL;subst e3;have a6:=qb G (.cells #[.int .i64 0,.int .i64 0] 125);have H:Hid (Calls Tryz.prog 123 #[.pointer (some ⟨d,0,none⟩)] (G.alloc (.cells #[.int .i64 0,.int .i64 0] 125)) fun e W'=>e=.returned (wv q.hd)/\Below (G.alloc (.cells #[.int .i64 0,.int .i64 0] 125)).heap.size (G.alloc (.cells #[.int .i64 0,.int .i64 0] 125)) W'):=kp w _ d h3 q qs (i.out.1.step a6);have b1:=qqz n.out.1.ok hL
    have a5:Hid (q.ws.length<=s/\q.lv=S.lv):=by
     obtain⟨o1,o2,o3⟩:=b1;have n1:=j4 B.out.2.1.ok;refine⟨?_,?_⟩
     ·rw[o2];have:=B.out.1;omega
     ·rw[o3];exact B.out.2.2.2.2
    have D:Hid (R=if q.hd.k=1 then zt (levP (S.lv:Int) a) s q else .ok q):=by
     show _=_;rw[<-B.out.2.2.2.1,I,hL]
    clear I hL a2 b1 a6;unfold wv at H
    generalize hy:q.hd=y at *
    obtain⟨U,yt,ya⟩:=y;simp only at H D;have b6:=qf9 U ya yt;unfold kf fv;simp only;go_wp2_with fail;refine H.out.mono ?_;rintro e W4 ⟨rfl,hB⟩;have A:Hid (Below G.heap.size G W4):=qd (qb _ _) hB;clear hB H hy
    by_cases t:U=1
    ·have hq:(U != 1)=false:=by simp[t]
     have Y:Hid (zt (levP (S.lv:Int) a) s q=R):=by
      show _=_;have:=D.out;rw[if_pos t]at this;exact this.symm
     clear t D;go_wp2_with fail;go_roundg s
     case measure=>omega
     case rel=>exact⟨s,Nat.le_refl _,(⟨q,h3,a5.out.1,i.out.1.step A.out,i.out.2.trans (qp A.out),Y.out,a5.out.2⟩:∃b O,b.ws.length<=s/\RD w W4 d O b qs/\Keep F W4/\zt (levP (S.lv:Int) a) s b=R/\b.lv=S.lv)⟩
    ·have hq:(U != 1)=true:=by simp[t]
     have Y:Hid (R=.ok q):=by
      show _=_;have:=D.out;rw[if_neg t]at this;exact this
     clear t D;have t2:=qf A.out (i.out.2.loc _ _ _ X.out (by decide) (by decide) (by decide) (by decide));obtain⟨q3,q4,z3,z4⟩:=zg t2
     have Z:Hid (Loc W4 nb 125):=⟨_,t2⟩
     clear t2;go_wp2_with fail;refine bodyPost_ret (v:=.agg #[.int .i64 0,.int .i64 0]) (by simp[results,Tryz.results137,go_sem, *]) rfl ?_;exact zf (i.out.1.step A.out) ((C.out.trans i.out.2).trans (qp A.out)) Z.out a0.out a1.out (by rw[Y.out];rfl) (fun b h=>by rw[Y.out]at h;cases h;rfl)
  ·have HN:Hid (R=.error (zj b.hd)):=by
    show _=_;rw[<-B.out.2.2.2.1]
    conv=>lhs;unfold zt
    rw[hP]
   rw[hF,hS]at E;unfold zj at E HN;generalize takeW 1 b=y at E
   generalize b.hd.a=l at *
   obtain⟨U,yt,ya⟩:=y;simp only at E;clear hk hP hF hS;go_wp2_with fail;refine E.out.mono ?_;rintro e j ⟨rfl,c⟩
   have p:Hid (Went w wr d b qs j/\Keep F j):=⟨c,B.out.2.2.1.trans (c.keep ⟨_,B.out.2.1.box⟩)⟩
   clear c E;have m:Below j.heap.size j ((j.alloc (.cells #[.int .i64 U,.string yt,.int .i64 ya] 149)).alloc (.cells #[.int .i64 1,.int .i64 l] 125)):=qd (qb _ _) (qb _ _);have t2:=qf m (p.out.2.loc _ _ _ X.out (by decide) (by decide) (by decide) (by decide));obtain⟨q3,q4,z3,z4⟩:=zg t2
   have Z:Hid (Loc ((j.alloc (.cells #[.int .i64 U,.string yt,.int .i64 ya] 149)).alloc (.cells #[.int .i64 1,.int .i64 l] 125)) nb 125/\Below j.heap.size j ((j.alloc (.cells #[.int .i64 U,.string yt,.int .i64 ya] 149)).alloc (.cells #[.int .i64 1,.int .i64 l] 125))):=⟨⟨_,t2⟩,m⟩
   clear t2 m;go_wp2_with fail;refine bodyPost_ret (v:=.agg #[.int .i64 1,.int .i64 l]) (by simp[results,Tryz.results137,go_sem, *]) rfl ?_;obtain⟨h2,o⟩:=p.out.1.rd;exact zf (o.step Z.out.2) ((C.out.trans p.out.2).trans (qp Z.out.2)) Z.out.1 a0.out a1.out (by rw[HN.out];rfl) (fun b h=>by rw[HN.out]at h;cases h)
end Go.Proofs.YtngclmglmhiljaaGreatDoor
