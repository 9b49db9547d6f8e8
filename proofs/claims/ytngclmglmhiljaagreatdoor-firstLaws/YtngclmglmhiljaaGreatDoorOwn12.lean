/- Texts that the proofs of the First statements stand on, part Own12. -/
import Derived.Test.YtngclmglmhiljaaGreatDoorOwn11
set_option maxHeartbeats 16000000
set_option maxRecDepth 100000
namespace Go.Proofs.YtngclmglmhiljaaGreatDoor
open Go.RowKit
def bX:ByteArray:=⟨#[120]⟩
def qa5:Gm:=⟨qu.ts,qu.s,qu.e,qu.rs++[⟨bX,[bX],e0⟩]⟩
def qje:Gm:=⟨[],e0,0,[]⟩
theorem vt:lfs qu.rs=[bE]:=by kernel_rfl
theorem qbc:lfs qa5.rs=[bE,bX]:=by kernel_rfl
theorem xy:spG qu=⟨3,1,4,0,nmG qu,[0,1,2],[0,1,1],[⟨-1,[4],0,0⟩,⟨4,[4,1,4],1,1⟩,⟨4,[4,2,4],2,1⟩,⟨4,[0],0,0⟩]⟩:=by kernel_rfl
theorem qfw:spG qa5=⟨3,2,4,0,nmG qa5,[0,1,2],[0,1,1],[⟨-1,[4],0,0⟩,⟨4,[4,1,4],1,1⟩,⟨4,[4,2,4],2,1⟩,⟨4,[0],0,0⟩,⟨5,[5],0,0⟩]⟩:=by kernel_rfl
theorem qaw {a b:ByteArray} (h:(a.data.toList == b.data.toList)=false):a≠b:=by
 rintro rfl
 simp at h
theorem qc4:NmP qu:=by
 have h1:bN≠bE:=qaw (by kernel_rfl)
 have h2:bP≠bE:=qaw (by kernel_rfl)
 have h3:bM≠bE:=qaw (by kernel_rfl)
 refine ⟨by simp [qu],?_,?_,?_,?_⟩
 ·intro t ht hl
  rw [vt] at hl
  simp only [qu,List.mem_cons,List.not_mem_nil,or_false] at ht hl
  rcases ht with rfl | rfl | rfl
  ·exact h1 hl
  ·exact h2 hl
  ·exact h3 hl
 ·intro r hr
  simp only [qu,List.mem_cons,List.not_mem_nil,or_false] at hr
  rcases hr with rfl | rfl | rfl <;> exact .inl rfl
 ·intro r hr x hx
  rw [vt]
  simp only [qu,List.mem_cons,List.not_mem_nil,or_false] at hr
  rcases hr with rfl | rfl | rfl
  all_goals
   simp only [List.mem_cons,List.not_mem_nil,or_false] at hx
   simp only [qu,tkG,List.map_cons,List.map_nil,List.mem_cons,List.not_mem_nil,or_false]
  ·rcases hx with rfl | rfl | rfl
   ·exact .inr rfl
   ·exact .inl (.inr (.inl rfl))
   ·exact .inr rfl
  ·rcases hx with rfl | rfl | rfl
   ·exact .inr rfl
   ·exact .inl (.inr (.inr rfl))
   ·exact .inr rfl
  ·exact .inl (.inl hx)
 ·rw [vt]
  show bE∈[bE]
  simp
theorem qdl:¬ kz qu:=by
 rintro (h | h | h | ⟨r,hr,h⟩)
 ·exact absurd h (by decide)
 ·exact absurd h (by decide)
 ·rw [vt] at h;exact absurd h (by decide)
 ·simp only [qu,List.mem_cons,List.not_mem_nil,or_false] at hr
  rcases hr with rfl | rfl | rfl <;> exact absurd h (by decide)
theorem qic:Der (spG qu) 4:=by
 rw [xy]
 refine Der.rule 3 ⟨4,[0],0,0⟩ 4 (by omega) rfl rfl (fun y hy=>?_)
 simp only [List.mem_cons,List.not_mem_nil,or_false] at hy
 subst hy
 exact Der.tok 0 (by show 0<3;omega)
theorem qop:¬ Der (spG qu) 3:=by
 rw [xy]
 intro h
 refine h (fun x=>x≠3) (fun x hx=>?_) (fun i r x h0 hr hl hy=>?_) rfl
 ·have:x<3:=hx
  omega
 ·match i,h0,hr with
  | 1,_,hr=>cases hr;simp at hl;omega
  | 2,_,hr=>cases hr;simp at hl;omega
  | 3,_,hr=>cases hr;simp at hl;omega
  | n+4,_,hr=>simp at hr
theorem qqe:¬ yd (spG qu):=by
 rintro ⟨x,h1,h2,h3⟩
 have e1:(spG qu).tk=3:=by rw [xy]
 have e2:(spG qu).nt=1:=by rw [xy]
 have:x=4:=by omega
 subst this
 rcases h3 with h3 | h3
 ·exact h3 qic
 ·refine h3 ?_
  have e3:(spG qu).st=4:=by rw [xy]
  have:=Rch.start (S:=spG qu)
  rwa [e3] at this
theorem qhr:OfR qu 0:=.inr (.inr (.inr (.inr ⟨rfl,qb4,qdl,qc4,qqe⟩)))
theorem qoq:MayP qa5:=by
 have h:=qb4
 have hX:zp bX:=by unfold zp;kernel_rfl
 refine ⟨by decide,by decide,h.e0,h.e1,h.st,h.tk,fun r hr=>?_⟩
 rcases List.mem_append.1 hr with hr | hr
 ·exact h.rl r hr
 ·rw [List.mem_singleton] at hr
  subst hr
  refine ⟨hX,by decide,.inl rfl,fun x hx=>?_⟩
  rw [List.mem_singleton] at hx
  subst hx
  exact hX
theorem qqf:OfR qa5 8:=by
 refine .inr (.inr (.inr (.inl ⟨rfl,qoq,?_,?_,?_⟩)))
 ·rintro (h | h | h | ⟨r,hr,h⟩)
  ·exact absurd h (by decide)
  ·exact absurd h (by decide)
  ·rw [qbc] at h;exact absurd h (by decide)
  ·rcases List.mem_append.1 hr with hr | hr
   ·exact qdl (.inr (.inr (.inr ⟨r,hr,h⟩)))
   ·rw [List.mem_singleton] at hr
    subst hr
    exact absurd h (by decide)
 ·have hl:∀ x,x∈lfs qu.rs->x∈lfs qa5.rs:=fun x hx=>by
   rw [vt] at hx
   rw [qbc]
   exact List.mem_append_left [bX] hx
  have h1:bN≠bX:=qaw (by kernel_rfl)
  have h2:bP≠bX:=qaw (by kernel_rfl)
  have h3:bM≠bX:=qaw (by kernel_rfl)
  refine ⟨by simp [qa5,qu],?_,?_,?_,?_⟩
  ·intro t ht hx
   have ht':t∈qu.ts:=ht
   rw [qbc] at hx
   rcases List.mem_cons.1 hx with hx | hx
   ·exact qc4.tk t ht' (by rw [vt,hx];simp)
   ·rw [List.mem_singleton] at hx
    simp only [qu,List.mem_cons,List.not_mem_nil,or_false] at ht'
    rcases ht' with rfl | rfl | rfl
    ·exact h1 hx
    ·exact h2 hx
    ·exact h3 hx
  ·intro r hr
   rcases List.mem_append.1 hr with hr | hr
   ·exact qc4.pr r hr
   ·rw [List.mem_singleton] at hr
    subst hr
    exact .inl rfl
  ·intro r hr x hx
   rcases List.mem_append.1 hr with hr | hr
   ·rcases qc4.rr r hr x hx with h | h
    ·exact .inl h
    ·exact .inr (hl x h)
   ·rw [List.mem_singleton] at hr
    subst hr
    rw [List.mem_singleton] at hx
    subst hx
    right
    rw [qbc]
    simp
  ·rw [qbc]
   show bE∈[bE,bX]
   simp
 ·refine ⟨5,by rw [qfw];show 3<5;omega,by rw [qfw];show 5<3+1+2;omega,.inr ?_⟩
  rw [qfw]
  intro h
  refine h (fun x=>x≠5) (by show (4:Nat)≠5;omega) (fun i r x y h0 hr hl hx hy=>?_) rfl
  match i,h0,hr with
  | 1,_,hr=>cases hr;simp only [List.mem_cons,List.not_mem_nil,or_false] at hy;rcases hy with rfl | rfl | rfl <;> omega
  | 2,_,hr=>cases hr;simp only [List.mem_cons,List.not_mem_nil,or_false] at hy;rcases hy with rfl | rfl | rfl <;> omega
  | 3,_,hr=>cases hr;simp only [List.mem_cons,List.not_mem_nil,or_false] at hy;subst hy;omega
  | 4,_,hr=>cases hr;simp at hl;omega
  | n+5,_,hr=>simp at hr
theorem qqg:MayP qje:=by
 refine ⟨by decide,by decide,by decide,by decide,.inl rfl,⟨fun i t h=>(by cases h),jl,rfl,?_⟩,fun r h=>(by cases h)⟩
 intro k h1 h2 h3
 match k,h2,h3 with
 | 0,_,_=>omega
 | 1,_,h3=>exact absurd rfl h3
 | 2,_,h3=>exact absurd rfl h3
 | 3,_,h3=>exact absurd rfl h3
 | 4,_,h3=>exact absurd rfl h3
 | 5,_,h3=>exact absurd rfl h3
 | 6,_,h3=>exact absurd rfl h3
 | 7,_,h3=>exact absurd rfl h3
 | 8,_,h3=>exact absurd rfl h3
theorem qrq:OfR qje 7:=by
 refine .inr (.inr (.inl ⟨rfl,qqg,?_,fun h=>h.ne rfl⟩))
 rintro (h | h | h | ⟨r,hr,h⟩)
 ·exact absurd h (by decide)
 ·exact absurd h (by decide)
 ·exact absurd h (by decide)
 ·cases hr
theorem qqh {G:Gm} (h:OfR G 0):MayP G/\¬ kz G/\NmP G/\¬ yd (spG G):=by
 rcases h with e | e | e | e | e
 ·omega
 ·omega
 ·omega
 ·omega
 ·exact e.2
theorem qqi {G:Gm} (h:¬ kz G):G.ts.length<=12/\G.rs.length<=30/\(lfs G.rs).length<=10/\∀ r∈G.rs,r.r.length<=6:=by
 refine ⟨?_,?_,?_,fun r hr=>?_⟩
 ·exact Classical.byContradiction fun e=>h (.inl (by omega))
 ·exact Classical.byContradiction fun e=>h (.inr (.inl (by omega)))
 ·exact Classical.byContradiction fun e=>h (.inr (.inr (.inl (by omega))))
 ·exact Classical.byContradiction fun e=>h (.inr (.inr (.inr ⟨r,hr,by omega⟩)))
theorem qqy {G:Gm} (h:OfR G 0):NSp (spG G) (G.ts.length+1+(lfs G.rs).length):=by
 obtain ⟨hm,hl,hn,hu⟩:=qqh h
 obtain ⟨h1,h2,h3,h4⟩:=qqi hl
 have hwf:=qei hm hl hn
 have hmem:∀ r∈(spG G).rs,r=⟨-1,[stG G],0,0⟩\/∃ q∈G.rs,r=ruG G q:=fun r hr=>by
  have hr:r∈(⟨-1,[stG G],0,0⟩ :: G.rs.map (ruG G)):=hr
  rcases List.mem_cons.1 hr with e | e
  ·exact .inl e
  ·obtain ⟨q,hq,e⟩:=List.mem_map.1 e
   exact .inr ⟨q,hq,e.symm⟩
 refine ⟨hwf,rfl,fun r hr y hy=>⟨(hwf.rr r hr).2 y hy,?_⟩,fun x h5 h6=>Classical.byContradiction fun e=>hu ⟨x,h5,h6,.inr e⟩,?_,fun r hr=>?_⟩
 ·have e0:(spG G).tk=G.ts.length:=rfl
  rw [e0]
  rcases hmem r hr with rfl | ⟨q,hq,rfl⟩
  ·simp only [List.mem_singleton] at hy
   subst hy
   have:=hwf.st.1
   have e1:(spG G).st=stG G:=rfl
   omega
  ·have hy:y∈q.r.map (ix (nmG G)):=hy
   obtain ⟨x,hx,rfl⟩:=List.mem_map.1 hy
   rcases hn.rr q hq x hx with e | e
   ·have:=qp9 (G:=G) e
    unfold ix
    rw [this.1]
    simp only [Option.getD_some]
    omega
   ·have:=qeh hm hn e
    unfold ix
    rw [this]
    simp only [Option.getD_some]
    unfold ix
    omega
 ·show (_ :: G.rs.map (ruG G)).length<=40
  rw [List.length_cons,List.length_map]
  omega
 ·rcases hmem r hr with rfl | ⟨q,hq,rfl⟩
  ·show 1<=20
   omega
  ·have:=h4 q hq
   show (q.r.map (ix (nmG G))).length<=20
   rw [List.length_map]
   omega
theorem qcn {i:Nat} {r:SR} (h0:0<i) (hr:(spG qu).rs[i]?=some r):r.l=4/\(r.r=[4,1,4]\/r.r=[4,2,4]\/r.r=[0]):=by
 rw [xy] at hr
 match i,h0,hr with
 | 1,_,hr=>cases hr;exact ⟨rfl,.inl rfl⟩
 | 2,_,hr=>cases hr;exact ⟨rfl,.inr (.inl rfl)⟩
 | 3,_,hr=>cases hr;exact ⟨rfl,.inr (.inr rfl)⟩
 | n+4,_,hr=>simp at hr
theorem ve:(spG qu).tk=3/\(spG qu).nt=1/\(spG qu).st=4:=by rw [xy];exact ⟨rfl,rfl,rfl⟩
theorem qdm (x:Nat):¬ Nul (spG qu) x:=fun h=>h (fun _=>False) (fun i r x h0 hr _ hy=>by
 obtain ⟨-,e | e | e⟩:=qcn h0 hr <;> rw [e] at hy
 ·exact hy 4 (by simp)
 ·exact hy 4 (by simp)
 ·exact hy 0 (by simp))
theorem qax {x t:Nat}:FstP (spG qu) x t↔(x<3/\t=x)\/(x=4/\t=0):=by
 constructor
 ·intro h
  refine h (fun x t=>(x<3/\t=x)\/(x=4/\t=0)) (fun x hx=>.inl ⟨by rw [ve.1] at hx;exact hx,rfl⟩) (fun i r x y a u v h0 hr hl he hu hy=>?_)
  obtain ⟨h4,hrr⟩:=qcn h0 hr
  have hx:x=4:=by rw [h4] at hl;omega
  refine .inr ⟨hx,?_⟩
  cases u with
  | cons z u=>exact absurd (hu z (by simp)) (qdm z)
  | nil =>
   rcases hrr with e | e | e
   ·rw [e] at he;cases he;simp at hy;exact hy
   ·rw [e] at he;cases he;simp at hy;exact hy
   ·rw [e] at he;cases he;simp at hy;exact hy
 ·rintro (⟨h1,rfl⟩ | ⟨rfl,rfl⟩)
  ·exact FstP.tok _ (by rw [ve.1];exact h1)
  ·exact FstP.rule 3 ⟨4,[0],0,0⟩ 4 0 0 [] [] (by omega) (by rw [xy];rfl) rfl rfl (fun z hz=>by cases hz) (FstP.tok 0 (by rw [ve.1];omega))
theorem qbd {x t:Nat} {l:List Nat}:FstL (spG qu) (x :: l) t↔FstP (spG qu) x t:=by
 rw [qba]
 exact ⟨fun h=>h.elim id (fun h=>absurd h.1 (qdm x)),.inl⟩
theorem qqj {t:Nat}:FolP (spG qu) 4 t↔t=1\/t=2\/t=3:=by
 constructor
 ·intro h
  have key:=h (fun x t=>x=4->(t=1\/t=2\/t=3)) (fun _=>by rw [ve.1];omega) (fun i r x y a u v h0 hr hl he hy hf _=>?_) (fun i r x y a u v h0 hr hl he hy hv hf _=>?_)
  ·exact key rfl
  ·obtain ⟨-,hrr⟩:=qcn h0 hr
   rw [ve.1] at hy
   rcases hrr with e | e | e
   ·rw [e] at he
    match u,he with
    | [],he=>cases he;rw [qbd,qax] at hf;omega
    | [_],he=>cases he;omega
    | [_,_],he=>cases he;exact absurd hf qc9
    | _ :: _ :: _ :: u,he=>cases u <;> cases he
   ·rw [e] at he
    match u,he with
    | [],he=>cases he;rw [qbd,qax] at hf;omega
    | [_],he=>cases he;omega
    | [_,_],he=>cases he;exact absurd hf qc9
    | _ :: _ :: _ :: u,he=>cases u <;> cases he
   ·rw [e] at he
    match u,he with
    | [],he=>cases he;omega
    | _ :: u,he=>cases u <;> cases he
  ·refine hf ?_
   obtain ⟨h4,-⟩:=qcn h0 hr
   rw [h4] at hl
   omega
 ·have e1:(spG qu).rs[1]?=some ⟨4,[4,1,4],1,1⟩:=by rw [xy];rfl
  have e2:(spG qu).rs[2]?=some ⟨4,[4,2,4],2,1⟩:=by rw [xy];rfl
  rintro (rfl | rfl | rfl)
  ·exact FolP.first 1 _ 4 4 1 [] [1,4] (by omega) e1 rfl rfl (by rw [ve.1];omega) (by rw [qbd,qax];omega)
  ·exact FolP.first 2 _ 4 4 2 [] [2,4] (by omega) e2 rfl rfl (by rw [ve.1];omega) (by rw [qbd,qax];omega)
  ·have:=FolP.start (S:=spG qu)
   rw [ve.1,ve.2.2] at this
   exact this
theorem qdn {m:Nat} {Q:Nat->Prop} (b:Nat->Bool) (h:∀ t,t<m->(b t=true↔Q t)):IsL m Q ((List.range m).filter b):=⟨b,h,rfl⟩
theorem Told.up {w v w':World} {m:Nat} {Q:Nat->Prop} {e:Ending} (hb:Below w.heap.size w v) (h:Told v w' m Q e):Told w w' m Q e:=by
 obtain ⟨l,la,lc,h1,h2,h3,h4⟩:=h
 exact ⟨l,la,lc,h1,h2,zd h3 hb.size,qd hb h4⟩
theorem qrr (W:World) (x:Int):Row (W.alloc (.cells #[.int .i64 x] 3)) 1 (some ⟨W.heap.size,0,none⟩) 1 1 [.int .i64 x]:=by
 refine ⟨rfl,Nat.le_refl _,by unfold maxLen;omega,.inr ⟨_,_,rfl,fun j u hu=>?_⟩⟩
 have h:(W.alloc (.cells #[.int .i64 x] 3)).heap[W.heap.size]?=some (.cells #[.int .i64 x] 3 (0,0)):=heap_alloc_new _ _
 rw [Nat.zero_add,qe h]
 match j,hu with
 | 0,hu=>cases hu;rfl
theorem qgt (W:World) (B fb n:Nat) (p:FP) (E:List Bool) (S:Sp) (WL:List (List Nat)) (h:FS W B fb p n S E WL) (x:Nat) (hx:x<n) (hxt:x≠S.tk) :
  Calls Tryz.prog 20 #[.pointer (some ⟨fb,0,none⟩),.int .i64 (x:Int)] W fun e W'=>Told W W' (S.tk+1) (FstP S x) e:=by
 have hb:Below W.heap.size W (W.alloc (.cells #[.int .i64 (x:Int)] 3)):=qb _ _
 have HC:Hid (Calls Tryz.prog 19 #[.pointer (some ⟨fb,0,none⟩),.slice (some ⟨W.heap.size,0,none⟩) 1 1,.int .i64 (-1)] (W.alloc (.cells #[.int .i64 (x:Int)] 3)) fun e W'=>Told (W.alloc (.cells #[.int .i64 (x:Int)] 3)) W' (S.tk+1) (fun t=>FstL S [x] t\/((∀ z∈[x],Nul S z)/\(t:Int)=-1)) e) :=
  qck _ B fb n p E S WL (h.below hb) [x] _ 1 1 rfl (by omega) (qrr W (x:Int)) (fun z hz=>by rw [List.mem_singleton] at hz;subst hz;exact ⟨hx,hxt⟩) (-1) (.inl rfl)
 have HT:Hid (∀ e W',Told (W.alloc (.cells #[.int .i64 (x:Int)] 3)) W' (S.tk+1) (fun t=>FstL S [x] t\/((∀ z∈[x],Nul S z)/\(t:Int)=-1)) e->Told W W' (S.tk+1) (FstP S x) e):=fun e W' hT=>(hT.up hb).congr (fun t _=>by
  rw [qba]
  constructor
  ·rintro ((h1 | ⟨-,h1⟩) | ⟨-,h1⟩)
   ·exact h1
   ·exact absurd h1 qc9
   ·omega
  ·exact fun h1=>.inl (.inl h1))
 clear h hb
 go_enter Tryz.func20,Tryz.ntmps20
 go_wp2_with fail
 refine HC.out.mono ?_
 rintro e W' hT
 have HF:Hid (Told W W' (S.tk+1) (FstP S x) e):=HT.out e W' hT
 obtain ⟨l,la,lc,rfl,-⟩:=hT
 go_wp2_with fail
 go_ret
 exact HF.out
theorem qdx (W:World) (B fb n:Nat) (p:FP) (E:List Bool) (S:Sp) (WL:List (List Nat)) (h:FS W B fb p n S E WL) (x:Nat) (hx:x<n) (hxt:S.tk<x) :
  Calls Tryz.prog 21 #[.pointer (some ⟨fb,0,none⟩),.int .i64 (x:Int)] W fun e W'=>Told W W' (S.tk+1) (FolP S x) e:=by
 have f0:=h.fm.c0
 have f1:=h.fm.c1
 have hbn:n<=1000:=by have:=h.nn;have:=h.wf.tk;have:=h.wf.nt;omega
 have hb:Below W.heap.size W (W.alloc (.cells #[.int .i64 ((n+x:Nat):Int)] 3)):=qb _ _
 have hn:(W.alloc (.cells #[.int .i64 ((n+x:Nat):Int)] 3)).heap[W.heap.size]?=some (.cells #[.int .i64 ((n+x:Nat):Int)] 3 (0,0)):=heap_alloc_new _ _
 have hd:decide ((S.tk:Int)<(x:Int)/\(x:Int)<(n:Int))=true:=by rw [decide_eq_true_eq];omega
 have HD:Hid (Calls Tryz.prog 50 #[.pointer (some ⟨fb,0,none⟩),.slice (some ⟨W.heap.size,0,none⟩) 1 1] (W.alloc (.cells #[.int .i64 ((n+x:Nat):Int)] 3)) fun e W'=>Told W W' (S.tk+1) (FolP S x) e):=by
  have ho:(W.alloc (.cells #[.int .i64 ((n+x:Nat):Int)] 3)).ownsRow W.heap.size 3 1 (.slice (some ⟨W.heap.size,0,none⟩) 1 1) 1 (natC [n+x]):=⟨rfl,.inr ⟨W.heap.size,1,#[.int .i64 ((n+x:Nat):Int)],rfl,Nat.le_refl _,hn,Nat.le_refl _,by unfold maxLen;omega,rfl,rfl⟩⟩
  refine (qef _ B fb n S.tk W.heap.size p E WL (h.fm.below hb) h.ways.ins (fun k hk=>(h.fm.lt hk).2.1) hb.size [n+x] _ 1 1 rfl ho (fun y hy=>by rw [List.mem_singleton] at hy;subst hy;have:=h.ways.len;omega) h.wl (by have:=h.tt;omega) (by have:=h.ways.len;have:=h.nn;omega)).mono ?_
  rintro e W' ⟨l,la,lc,h1,h2,h3,h4⟩
  refine ⟨l,la,lc,h1,h2.congr (fun t ht=>?_),h3,hb.trans h4⟩
  rw [<-h.ways.got_fol hx (by omega:t<=S.tk) (by omega) h.sy]
  constructor
  ·rintro ⟨a,ha,hg⟩
   rw [List.mem_singleton] at ha
   subst ha
   exact hg
  ·exact fun hg=>⟨n+x,by simp,hg⟩
 clear h hb hn
 go_enter Tryz.func21,Tryz.ntmps21
 go_wp2_with fail
 refine (jt W fb S.tk n n (some ⟨p.eb,0,none⟩) f0 f1 (x:Int)).mono ?_
 rintro e w1 ⟨rfl,rfl⟩
 rw [hd]
 go_wp2_with fail
 refine (yw w1 fb n n x _ f1 hbn hx).mono ?_
 rintro e w2 ⟨rfl,rfl⟩
 go_wp2_with fail
 refine HD.out.mono ?_
 rintro e w3 hT
 have HT:Hid (Told w2 w3 (S.tk+1) (FolP S x) e):=hT
 obtain ⟨l,la,lc,rfl,-⟩:=hT
 go_wp2_with fail
 go_ret
 exact HT.out
def wdOf (s:ByteArray) (x:Nat × Nat × Nat):Wd:=⟨(x.1:Int),s.extract x.2.1 x.2.2,(x.2.1:Int)⟩
theorem qma (l:List UInt8) (i j:Nat):bt (l.drop i) j=bt l (i+j):=by unfold bt;rw [List.getElem?_drop]
theorem qmb {l:List UInt8} {i e j:Nat} (h:j<e - i):bt (part l i e) j=bt l (i+j):=by
 unfold part
 rw [<-qma]
 unfold bt
 rw [List.getElem?_take,if_pos h]
theorem qe8 {l:List UInt8} {i e:Nat} (h:e<=l.length):(part l i e).length=e - i:=by
 unfold part
 rw [List.length_take,List.length_drop]
 omega
theorem qgu (p:Int->Bool):∀ (l:List UInt8) (j:Nat),j<xv p l->p (bt l j)=true
 | [],j,h=>by simp [xv] at h
 | b :: r,0,h=>by
  unfold xv at h
  split at h
  ·rename_i hp;exact hp
  ·omega
 | b :: r,j+1,h=>by
  unfold xv at h
  split at h
  ·have:=qgu p r j (by omega)
   exact this
  ·omega
theorem qll {p:Int->Bool} {l:List UInt8} {i j:Nat} (h1:i<=j) (h2:j<runEnd p l i):p (bt l j)=true:=by
 have:=qgu p (l.drop i) (j - i) (by unfold runEnd at h2;omega)
 rw [qma,show i+(j - i)=j by omega] at this
 exact this
theorem qrs (s:ByteArray) (i e:Nat) (h:e<=(by8 s).length):(s.extract i e).size=e - i:=by
 rw [<-qy,z9,qe8 h]
theorem qrt (s:ByteArray) (i:Nat) (hi:i<(by8 s).length) (hK:(wordP (by8 s) i).1≠0):WdOk (wdOf s ((wordP (by8 s) i).1,i,(wordP (by8 s) i).2)):=by
 obtain ⟨r1,r2,r3,r4⟩:=yg hi
 have r3:=r3 hK
 have hsz:=qrs s i _ r2
 have hb0:bt (by8 (s.extract i (wordP (by8 s) i).2)) 0=bt (by8 s) i:=by rw [z9,qmb (by omega)];rfl
 have hkind:(1:Int)<=((wordP (by8 s) i).1:Int)/\((wordP (by8 s) i).1:Int)<=4:=by omega
 by_cases h1:isL (bt (by8 s) i)=true
 ·have e:=qab h1
  unfold nameP at e
  by_cases h12:12<runEnd isN (by8 s) i - i
  ·rw [if_pos h12] at e
   rw [e] at hK
   exact absurd rfl hK
  ·rw [if_neg h12] at e
   refine ⟨hkind,fun _=>⟨by unfold wdOf;simp only;rw [hb0];exact h1,by unfold wdOf;simp only;rw [hsz];omega⟩,fun h=>?_,fun h=>?_,fun h=>?_,by unfold wdOf;simp only;rw [hsz,e];simp only;omega⟩
   all_goals (unfold wdOf at h;simp only at h;rw [e] at h;simp at h)
 ·have h1:isL (bt (by8 s) i)=false:=by simpa using h1
  by_cases h2:isD (bt (by8 s) i)=true
  ·have e:=qa8 h1 h2
   unfold numberP at e
   by_cases hb:jv (by8 s) i (runEnd isD (by8 s) i)=true
   ·rw [if_pos hb] at e
    rw [e] at hK
    exact absurd rfl hK
   ·rw [if_neg hb] at e
    have h4:runEnd isD (by8 s) i - i<=4:=by
     unfold jv at hb
     simp only [Bool.or_eq_true,not_or,decide_eq_true_eq] at hb
     omega
    refine ⟨hkind,fun h=>?_,fun _=>⟨by unfold wdOf;simp only;rw [hsz];omega,by unfold wdOf;simp only;rw [hsz,e];exact h4,fun j hj=>?_⟩,fun h=>?_,fun h=>?_,by unfold wdOf;simp only;rw [hsz,e];simp only;omega⟩
    ·unfold wdOf at h;simp only at h;rw [e] at h;simp at h
    ·unfold wdOf at hj ⊢
     simp only at hj ⊢
     rw [hsz] at hj
     rw [z9,qmb hj]
     refine qll (i:=i) (by omega) ?_
     rw [e] at hj
     simp only at hj
     omega
    ·unfold wdOf at h;simp only at h;rw [e] at h;simp at h
    ·unfold wdOf at h;simp only at h;rw [e] at h;simp at h
  ·have h2:isD (bt (by8 s) i)=false:=by simpa using h2
   by_cases h3:(bt (by8 s) i == 37)=true
   ·have e:=qa9 h1 h2 h3
    have hk4:(wordP (by8 s) i).1=4/\(wordP (by8 s) i).2 - i<=100:=by
     rw [e]
     rw [e] at hK
     unfold keyP at hK ⊢
     split
     ·exact ⟨rfl,by simp only;omega⟩
     ·rename_i hp
      rw [if_neg hp] at hK
      split
      ·rename_i hc
       refine ⟨rfl,?_⟩
       have hl:(part (by8 s) (i+1) (runEnd isN (by8 s) (i+1))).length=runEnd isN (by8 s) (i+1) - (i+1):=qe8 (jk (by omega))
       have hm:∀ t,j2.contains t=true->t.length<=8:=by
        intro t ht
        simp [j2] at ht
        rcases ht with rfl | rfl | rfl | rfl | rfl | rfl | rfl <;> decide
       have:=hm _ hc
       simp only
       omega
      ·rename_i hc
       rw [if_neg hc] at hK
       exact absurd rfl hK
    refine ⟨hkind,fun h=>?_,fun h=>?_,fun h=>?_,fun _=>⟨by unfold wdOf;simp only;rw [hb0];simpa using h3,by unfold wdOf;simp only;rw [hsz];omega⟩,by unfold wdOf;simp only;rw [hsz];exact hk4.2⟩
    all_goals (unfold wdOf at h;simp only at h;rw [hk4.1] at h;simp at h)
   ·have h3:(bt (by8 s) i == 37)=false:=by simpa using h3
    by_cases h4:isS (bt (by8 s) i)=true
    ·have e:=qac h1 h2 h3 h4
     have hpl:by8 (s.extract i (wordP (by8 s) i).2)=[(by8 s)[i]]:=by
      rw [z9,e]
      unfold part
      simp only
      rw [show i+1 - i=1 by omega,List.drop_eq_getElem_cons hi]
      rfl
     have hbt:bt (by8 s) i=(((by8 s)[i]).toNat:Int):=by unfold bt;rw [List.getElem?_eq_getElem hi];rfl
     refine ⟨hkind,fun h=>?_,fun h=>?_,fun _=>?_,fun h=>?_,by unfold wdOf;simp only;rw [hsz,e];simp only;omega⟩
     ·unfold wdOf at h;simp only at h;rw [e] at h;simp at h
     ·unfold wdOf at h;simp only at h;rw [e] at h;simp at h
     ·unfold wdOf
      simp only
      rw [hpl]
      unfold isS at h4
      rw [hbt] at h4
      simp only [Bool.or_eq_true,beq_iff_eq] at h4
      have key:∀ c:UInt8,((c.toNat:Int)=58\/(c.toNat:Int)=124)\/(c.toNat:Int)=59->[c]=[58]\/[c]=[124]\/[c]=[(59:UInt8)]:=by
       intro c hc
       rcases hc with (hc | hc) | hc
       ·left;rw [List.cons.injEq];exact ⟨UInt8.toNat_inj.1 (by have h5:c.toNat=58:=(by omega);rw [h5];rfl),rfl⟩
       ·right;left;rw [List.cons.injEq];exact ⟨UInt8.toNat_inj.1 (by have h5:c.toNat=124:=(by omega);rw [h5];rfl),rfl⟩
       ·right;right;rw [List.cons.injEq];exact ⟨UInt8.toNat_inj.1 (by have h5:c.toNat=59:=(by omega);rw [h5];rfl),rfl⟩
      exact key _ h4
     ·unfold wdOf at h;simp only at h;rw [e] at h;simp at h
    ·rw [qbl h1 h2 h3 (by simpa using h4)] at hK
     exact absurd rfl hK
theorem qgv (s:ByteArray):∀ (f i:Nat) (a ws:List (Nat × Nat × Nat)),(∀ x∈a,WdOk (wdOf s x))->kr f (by8 s) i a=(ws,-1)->Ends (ws.map (wdOf s))
 | 0,i,a,ws,_,h=>by simp [kr] at h
 | f+1,i,a,ws,ha,h=>by
  by_cases hi:i<(by8 s).length
  ·by_cases hK:(wordP (by8 s) i).1=0
   ·rw [qby hi hK] at h
    simp at h
   ·rw [y8 hi hK] at h
    refine qgv s f _ _ ws (fun x hx=>?_) h
    rcases List.mem_append.1 hx with hx | hx
    ·exact ha x hx
    ·rw [List.mem_singleton] at hx
     subst hx
     exact qrt s i hi hK
  ·rw [qbx (by omega)] at h
   simp only [Prod.mk.injEq] at h
   rw [<-h.1,List.map_append]
   refine ⟨a.map (wdOf s),((by8 s).length:Int),?_,fun w hw=>?_⟩
   ·congr 1
    show [wdOf s (5,(by8 s).length,(by8 s).length)]=[endW _]
    unfold wdOf endW
    simp only
    rw [qy,qew]
    rfl
   ·obtain ⟨x,hx,rfl⟩:=List.mem_map.1 hw
    exact ha x hx
theorem qor {s:ByteArray} (h:(scan (by8 s)).2=-1):Ends ((scan (by8 s)).1.map (wdOf s)):=by
 refine qgv s _ _ [] _ (fun x hx=>by cases hx) (?_:scan (by8 s)=_)
 rw [<-h]
theorem qc5 {l:List UInt8} {m i:Nat} (h:i<m):bt (l.take m) i=bt l i:=by
 unfold bt;rw [List.getElem?_take,if_pos h]
theorem qe9 (p:Int->Bool):∀ (l:List UInt8) (m:Nat),xv p (l.take m)=min (xv p l) m
 | [],m=>by simp [xv]
 | b :: r,0=>by simp [xv]
 | b :: r,m+1=>by
  rw [List.take_succ_cons]
  unfold xv
  split
  ·rw [qe9 p r m];omega
  ·omega
theorem qa6 {p:Int->Bool} {l:List UInt8} {m i:Nat} (h:i<=m) (he:runEnd p l i<=m):runEnd p (l.take m) i=runEnd p l i:=by
 unfold runEnd at *
 rw [List.drop_take,qe9]
 omega
theorem qos {l:List UInt8} {m i e:Nat} (he:e<=m):part (l.take m) i e=part l i e:=by
 unfold part
 rw [List.drop_take,List.take_take,show min (e - i) (m - i)=e - i by omega]
theorem yz {l:List UInt8} {m:Nat} (hm:m<=l.length):(l.take m).length=m:=by rw [List.length_take];omega
theorem qen {x y:Int} {l:List UInt8} {m i:Nat} (hm:m<=l.length) (h:i+1<m):pre2 x y (l.take m) i=pre2 x y l i:=by
 unfold pre2
 rw [yz hm,qc5 (by omega),qc5 h,decide_eq_true h,decide_eq_true (show i+1<l.length by omega)]
theorem qeo {x y:Int} {l:List UInt8} {m i:Nat} (hm:m<=l.length) (h:pre2 x y l i=false):pre2 x y (l.take m) i=false:=by
 by_cases hi:i+1<m
 ·rw [qen hm hi,h]
 ·unfold pre2
  rw [yz hm,decide_eq_false hi]
  rfl
theorem qdo {l:List UInt8} {m:Nat} (hm:m<=l.length):∀ (f f' i:Nat),i<=m->m - i<f'->l.length - i<f->xm f l i<=m->xm f' (l.take m) i=xm f l i
 | 0,_,_,_,_,h,_=>by omega
 | f+1,0,_,_,h,_,_=>by omega
 | f+1,f'+1,i,hi,h1,h2,h3=>by
  have hl:=yz hm
  by_cases he:i=m
  ·rw [qfe (by omega)]
   by_cases hb:i<l.length
   ·have:=(qbw (l:=l) (f+1) i (by omega)).1
    omega
   ·rw [qfe (by omega)]
  ·have hlt:i<l.length:=by omega
   have hb':=qc5 (l:=l) (show i<m by omega)
   by_cases hb:isB (bt l i)=true
   ·rw [qc7 hlt hb] at h3 ⊢
    rw [qc7 (by omega) (by rw [hb'];exact hb)]
    exact qdo hm f f' (i+1) (by omega) (by omega) (by omega) h3
   ·have hb:isB (bt l i)=false:=by simpa using hb
    by_cases hp:pre2 47 47 l i=true
    ·rw [qd0 hlt hb hp] at h3 ⊢
     have hr:=qd2 hp
     have hle:=jk (p:=noNl) (l:=l) (i:=i) (by omega)
     have hs:=(qbw (l:=l) f (runEnd noNl l i) hle).1
     have h47:runEnd noNl l i=runEnd noNl l (i+1+1):=by
      simp only [pre2,Bool.and_eq_true,decide_eq_true_eq,beq_iff_eq] at hp
      rw [kt hlt (by rw [hp.1.2];rfl),kt hp.1.1 (by rw [hp.2];rfl)]
     have h48:=vl noNl l (i+1+1)
     rw [qd0 (by omega) (by rw [hb'];exact hb) (by rw [qen hm (by omega)];exact hp),qa6 hi (by omega)]
     exact qdo hm f f' _ (by omega) (by omega) (by omega) h3
    ·have hp:pre2 47 47 l i=false:=by simpa using hp
     rw [qd1 hb hp,qd1 (by rw [hb'];exact hb) (qeo hm hp)]
theorem qid {l:List UInt8} {m i:Nat} (hm:m<=l.length) (hi:i<=m) (h:skip l i<=m):skip (l.take m) i=skip l i:=by
 unfold skip at *
 exact qdo hm _ _ i hi (by rw [yz hm];omega) (by omega) h
theorem qm8 {l:List UInt8} {m i:Nat} (hm:m<=l.length) (hi:i<m) (hk:(wordP l i).1≠0) (he:(wordP l i).2<=m):wordP (l.take m) i=wordP l i:=by
 have hb:=qc5 (l:=l) hi
 by_cases h1:isL (bt l i)=true
 ·rw [qab h1] at hk he ⊢
  rw [qab (by rw [hb];exact h1)]
  unfold nameP at *
  split at hk
  ·exact absurd rfl hk
  ·rename_i hc
   rw [if_neg hc] at he
   rw [qa6 (by omega) he]
 ·have h1:isL (bt l i)=false:=by simpa using h1
  by_cases h2:isD (bt l i)=true
  ·rw [qa8 h1 h2] at hk he ⊢
   rw [qa8 (by rw [hb];exact h1) (by rw [hb];exact h2)]
   unfold numberP at *
   split at hk
   ·exact absurd rfl hk
   ·rename_i hc
    rw [if_neg hc] at he ⊢
    rw [qa6 (by omega) he,if_neg]
    intro hn
    apply hc
    unfold jv at *
    rw [yz hm,hb] at hn
    simp only [Bool.or_eq_true,Bool.and_eq_true,decide_eq_true_eq] at hn ⊢
    rcases hn with hn | ⟨hn,hn2⟩
    ·exact Or.inl hn
    ·rw [qc5 hn] at hn2
     exact Or.inr ⟨by omega,hn2⟩
  ·have h2:isD (bt l i)=false:=by simpa using h2
   by_cases h3:(bt l i == 37)=true
   ·rw [qa9 h1 h2 h3] at hk he ⊢
    rw [qa9 (by rw [hb];exact h1) (by rw [hb];exact h2) (by rw [hb];exact h3)]
    unfold keyP at *
    by_cases hp:pre2 37 37 l i=true
    ·rw [if_pos hp] at he ⊢
     simp only at he
     rw [if_pos (by rw [qen hm (by omega)];exact hp)]
    ·rw [if_neg hp] at hk he ⊢
     rw [if_neg (by rw [qeo hm (by simpa using hp)];simp)]
     split at hk
     ·rename_i hc
      rw [if_pos hc] at he ⊢
      rw [qa6 (by omega) he,qos he,if_pos hc]
     ·exact absurd rfl hk
   ·have h3:(bt l i == 37)=false:=by simpa using h3
    by_cases h4:isS (bt l i)=true
    ·rw [qac h1 h2 h3 h4,qac (by rw [hb];exact h1) (by rw [hb];exact h2) (by rw [hb];exact h3) (by rw [hb];exact h4)]
    ·rw [qbl h1 h2 h3 (by simpa using h4)] at hk
     exact absurd rfl hk
theorem qao {l:List UInt8} {m:Nat}:∀ (f i:Nat) (a:List (Nat × Nat × Nat)),(kr f l i a).2=(m:Int)->i<=m/\m<l.length
 | 0,i,a,h=>by simp only [kr] at h;omega
 | f+1,i,a,h=>by
  by_cases hi:i<l.length
  ·by_cases hK:(wordP l i).1=0
   ·rw [qby hi hK] at h
    simp only at h
    omega
   ·rw [y8 hi hK] at h
    have h1:=qao f _ _ h
    have h2:=yg hi
    have h3:=qbs (l:=l) (i:=(wordP l i).2) h2.2.1
    omega
  ·rw [qbx (by omega)] at h
   simp only at h
   omega
theorem qgw {l:List UInt8} {m:Nat}:∀ (f f' i:Nat) (a:List (Nat × Nat × Nat)),m - i<f'->(kr f l i a).2=(m:Int)->(kr f' (l.take m) i a).2=-1
 | 0,_,i,a,_,h=>by simp only [kr] at h;omega
 | f+1,0,_,_,h,_=>by omega
 | f+1,f'+1,i,a,hf,h=>by
  have hr:=qao _ _ _ h
  have hm:m<=l.length:=by omega
  have hl:=yz hm
  have hi:i<l.length:=by omega
  by_cases he:i=m
  ·rw [qbx (by omega)]
  ·by_cases hK:(wordP l i).1=0
   ·rw [qby hi hK] at h
    simp only at h
    omega
   ·rw [y8 hi hK] at h
    have h1:=qao f _ _ h
    have h2:=yg hi
    have h3:=qbs (l:=l) (i:=(wordP l i).2) h2.2.1
    have hw:=qm8 hm (by omega:i<m) hK (by omega)
    rw [y8 (by omega) (by rw [hw];exact hK),hw,qid hm (by omega) h1.1]
    exact qgw f f' _ _ (by have:=h2.2.2.1 hK;omega) h
theorem qot {l:List UInt8} {m:Nat} (h:(scan l).2=(m:Int)):m<l.length/\(scan (l.take m)).2=-1:=by
 unfold scan at *
 have hr:=qao _ _ _ h
 refine ⟨hr.2,?_⟩
 have hm:m<=l.length:=by omega
 rw [qid hm (by omega) hr.1,yz hm]
 exact qgw _ _ _ _ (by omega) h
def TokA (w W:World) (rb:Nat) (qs:List (Ru × Option Addr × Nat)) (R:Except Flt (Nat × St)) (e:Ending) (W':World):Prop :=
 match R with
 | .ok (i,S1)=>∃ h' tb,e=.returned (.tuple #[.pointer (some ⟨tb,i * 4,none⟩),fv (0,0)])/\h'.ta=some ⟨tb,0,none⟩/\RD w W' rb h' S1 qs/\Keep W W'
 | .error f=>e=.returned (.tuple #[.pointer none,fv f])/\(∃ h' S1,RD w W' rb h' S1 qs)/\Keep W W'
theorem Keep.far {W W':World} (k:Keep W W') {b:Nat} (hb:W.heap.size<=b) (j:Nat) (u:Value):Keep W (W'.setCell ⟨b,j,none⟩ u) :=
 ⟨by have:=k.size;simpa using this,fun b' c T h0 h1 h2 h3 h4=>by
  rw [Below.heap_setCell _ _ _ _ (fun e=>by simp only at e;have:=(Array.getElem?_eq_some_iff.1 h0).1;omega)]
  exact k.loc b' c T h0 h1 h2 h3 h4⟩
theorem qdy (x:Wd) (w W:World) (rb:Nat) (h:RHd) (S:St) (qs:List (Ru × Option Addr × Nat)) (r:RD w W rb h S qs) :
  Calls Tryz.prog 156 #[.pointer (some ⟨rb,0,none⟩),wv x] W fun e W'=>TokA w W rb qs (tokP x S) e W':=by
 obtain ⟨xk,xt,xa⟩:=x
 unfold wv
 simp only
 have hB:Below W.heap.size W ((W.alloc (.cells #[.int .i64 xk,.string xt,.int .i64 xa] 149)).alloc (.cells #[.int .i64 0,.int .i64 0] 125)):=qd (qb _ _) (qb _ _)
 have hb0:((W.alloc (.cells #[.int .i64 xk,.string xt,.int .i64 xa] 149)).alloc (.cells #[.int .i64 0,.int .i64 0] 125)).heap[W.heap.size]?=some (.cells #[.int .i64 xk,.string xt,.int .i64 xa] 149 (0,0)):=qf (qb _ _) (heap_alloc_new _ _)
 have hb1:((W.alloc (.cells #[.int .i64 xk,.string xt,.int .i64 xa] 149)).alloc (.cells #[.int .i64 0,.int .i64 0] 125)).heap[W.heap.size+1]?=some (.cells #[.int .i64 0,.int .i64 0] 125 (0,0)):=by
  have:=heap_alloc_new (W.alloc (.cells #[.int .i64 xk,.string xt,.int .i64 xa] 149)) (.cells #[.int .i64 0,.int .i64 0] 125)
  rwa [qt] at this
 have hrb:rb<W.heap.size:=(Array.getElem?_eq_some_iff.1 r.box).1
 have HR:Hid (RD w ((W.alloc (.cells #[.int .i64 xk,.string xt,.int .i64 xa] 149)).alloc (.cells #[.int .i64 0,.int .i64 0] 125)) rb h S qs):=r.step hB
 have HWW:Hid (w.heap.size<=W.heap.size):=r.bel.size
 obtain ⟨hle,hmx⟩:=r.tlen
 have hnn:S.ts.length<=40:=r.ok.nt
 clear r
 obtain ⟨wb,wo,wl,ta,tc,ra,rc⟩:=h
 simp only at hle hmx
 have HL0:Hid ((S.ts.length=40)\/¬ (S.ts.length=40)):=Classical.em _
 generalize en:S.ts.length=n at *
 have HN:Hid (S.ts.length=n):=en
 clear en
 go_enter Tryz.func156,Tryz.ntmps156
 go_upto_region 1 with fail
 generalize (W.alloc (.cells #[.int .i64 xk,.string xt,.int .i64 xa] 149)).alloc (.cells #[.int .i64 0,.int .i64 0] 125)=W1 at hB hb0 hb1 HR ⊢
 obtain ⟨nb,hnb⟩:∃ nb,nb=W.heap.size:=⟨_,rfl⟩
 rw [<-hnb] at hb0 hb1 ⊢
 have HNB:Hid (nb=W.heap.size/\rb<nb):=⟨hnb,by rw [hnb];exact hrb⟩
 have HB1:Hid (Below W.heap.size W W1):=hB
 have HBX:Hid (W1.heap[nb]?=some (.cells #[.int .i64 xk,.string xt,.int .i64 xa] 149 (0,0))/\W1.heap[nb+1]?=some (.cells #[.int .i64 0,.int .i64 0] 125 (0,0))):=⟨hb0,hb1⟩
 clear hb0 hb1 hrb hnb hB
 have HC:Hid (Calls Tryz.prog 168 #[.slice ta n tc,.func (.func 169) #[] #[.pointer (some ⟨nb,0,none⟩)]] W1 fun e w'=>e=.returned (.int .i64 (idxI (vg S.ts xt)))/\Below W1.heap.size W1 w'):=by
  have:=qhc w W1 rb ⟨wb,wo,wl,ta,tc,ra,rc⟩ S qs HR.out nb xt (by rw [qe HBX.out.1];rfl)
  simp only [HN.out] at this
  exact this
 have b1:W1.cell? ⟨rb,1,none⟩=some (.slice ta n tc):=by
  rw [qe HR.out.box]
  unfold rdC
  simp only [HN.out]
  rfl
 go_wp2_with fail
 refine HC.out.mono ?_
 rintro e W2 ⟨rfl,hB⟩
 have HB2:Hid (Below W1.heap.size W1 W2):=hB
 clear hB b1 HC
 have b1:W2.cell? ⟨rb,1,none⟩=some (.slice ta n tc):=by
  rw [qe (qf HB2.out HR.out.box)]
  unfold rdC
  simp only [HN.out]
  rfl
 have t2:=qf HB2.out HBX.out.2
 have q3:W2.cell? ⟨nb+1,0,none⟩=some (.int .i64 0):=by rw [qe t2];rfl
 have q4:W2.cell? ⟨nb+1,1,none⟩=some (.int .i64 0):=by rw [qe t2];rfl
 have z3:W2.frozen? ⟨nb+1,0,none⟩=false:=qi t2 0
 have z4:W2.frozen? ⟨nb+1,1,none⟩=false:=qi t2 1
 have HL2:Hid (Loc W2 (nb+1) 125):=⟨_,t2⟩
 clear t2
 cases hf:vg S.ts xt with
 | some i =>
  obtain ⟨t,ht,htn⟩:=qfk hf
  have hi:i<n:=by rw [<-HN.out];exact (List.getElem?_eq_some_iff.1 ht).1
  obtain ⟨tb,bb,hta,-⟩:=(HR.out.step HB2.out).tokAt ht
  simp only at hta
  subst hta
  have hi':(i:Int)<(n:Int):=by omega
  have HF:Hid (tokP ⟨xk,xt,xa⟩ S=.ok (i,S)):=by
   show _=_
   unfold tokP
   simp only [hf]
  clear hf ht htn
  unfold idxI
  simp only
  go_wp2_with fail
  refine bodyPost_ret (v:=.tuple #[.pointer (some ⟨tb,i * 4,none⟩),.agg #[.int .i64 0,.int .i64 0]]) (by simp [results,Tryz.results156,go_sem, *]) rfl ?_
  rw [HF.out]
  have hn:W.heap.size<=nb:=Nat.le_of_eq HNB.out.1.symm
  have hk:Keep W W2:=qp (qd HB1.out HB2.out)
  refine ⟨⟨wb,wo,wl,some ⟨tb,0,none⟩,tc,ra,rc⟩,tb,rfl,rfl,?_,(hk.far (by omega) _ _).far (by omega) _ _⟩
  exact ((HR.out.step HB2.out).far HL2.out (by decide) (by have:=HWW.out;omega)).far (HL2.out.set _ _ _) (by decide) (by have:=HWW.out;omega)
 | none =>
  unfold idxI
  simp only
  by_cases h40:n=40
  ·have hq:((n:Int) == 40)=true:=by simp [h40]
   have HF:Hid (tokP ⟨xk,xt,xa⟩ S=.error (zj ⟨xk,xt,xa⟩)):=by
    show _=_
    unfold tokP
    simp only [hf,HN.out,h40,if_true]
   have t1:=qf HB2.out HBX.out.1
   have p0:W2.cell? ⟨nb,0,none⟩=some (.int .i64 xk):=by rw [qe t1];rfl
   have p1:W2.cell? ⟨nb,1,none⟩=some (.string xt):=by rw [qe t1];rfl
   have p2:W2.cell? ⟨nb,2,none⟩=some (.int .i64 xa):=by rw [qe t1];rfl
   clear hf t1 q3 q4 z3 z4 h40
   go_wp2_with fail
   refine (jo ⟨xk,xt,xa⟩ _).mono ?_
   rintro e W3 ⟨rfl,hB⟩
   have HB3:Hid (Below W1.heap.size W1 W3):=qd HB2.out hB
   clear hB b1 p0 p1 p2
   unfold fv zj
   simp only
   have t2:=qf HB3.out HBX.out.2
   have q3:W3.cell? ⟨nb+1,0,none⟩=some (.int .i64 0):=by rw [qe t2];rfl
   have q4:W3.cell? ⟨nb+1,1,none⟩=some (.int .i64 0):=by rw [qe t2];rfl
   have z3:W3.frozen? ⟨nb+1,0,none⟩=false:=qi t2 0
   have z4:W3.frozen? ⟨nb+1,1,none⟩=false:=qi t2 1
   have HL3:Hid (Loc W3 (nb+1) 125):=⟨_,t2⟩
   clear t2
   go_wp2_with fail
   refine bodyPost_ret (v:=.tuple #[.pointer none,.agg #[.int .i64 1,.int .i64 xa]]) (by simp [results,Tryz.results156,go_sem, *]) rfl ?_
   rw [HF.out]
   have hn:W.heap.size<=nb:=Nat.le_of_eq HNB.out.1.symm
   have hk:Keep W W3:=qp (qd HB1.out HB3.out)
   refine ⟨rfl,⟨⟨wb,wo,wl,ta,tc,ra,rc⟩,S,?_⟩,(hk.far (by omega) _ _).far (by omega) _ _⟩
   exact ((HR.out.step HB3.out).far HL3.out (by decide) (by have:=HWW.out;omega)).far (HL3.out.set _ _ _) (by decide) (by have:=HWW.out;omega)
  ·have hq:((n:Int) == 40)=false:=by simp;omega
   have h41:S.ts.length<40:=by rw [HN.out];omega
   have HF:Hid (tokP ⟨xk,xt,xa⟩ S=.ok (n,⟨S.ws,S.ts++[⟨xt,0,0⟩],S.ls++[false],S.lv,S.st,S.ed,S.ex,S.rs⟩)):=by
    show _=_
    unfold tokP
    simp only [hf,HN.out]
    rw [if_neg h40]
   have p1:W2.cell? ⟨nb,1,none⟩=some (.string xt):=by rw [qe (qf HB2.out HBX.out.1)];rfl
   obtain ⟨tb,m,c,W3,hrun,hm,hbox,hrd,hkp⟩:=((HR.out.step HB2.out).step (qk W2)).addTok xt h41
   simp only [HN.out] at hrun hm
   have hrun2:(Builtin.append_ #[137,137] 137 #[.slice ta n tc,.slice (some ⟨W2.heap.size,0,none⟩) 1 1]).run Tryz.prog (W2.alloc (.cells #[.string xt,.int .i64 0,.int .i64 0,.bool false] 153)).drew=.ok (.slice (some ⟨tb,0,none⟩) m c) W3:=hrun
   have d1:W3.cell? ⟨rb,1,none⟩=some (.slice ta n tc):=by
    rw [qe hbox]
    unfold rdC
    simp only [HN.out]
    rfl
   have f1:W3.frozen? ⟨rb,1,none⟩=false:=qi hbox 1
   have HD:Hid (RD w (W3.setCell ⟨rb,1,none⟩ (.slice (some ⟨tb,0,none⟩) m c)) rb ⟨wb,wo,wl,some ⟨tb,0,none⟩,c,ra,rc⟩ ⟨S.ws,S.ts++[⟨xt,0,0⟩],S.ls++[false],S.lv,S.st,S.ed,S.ex,S.rs⟩ qs/\Keep W2 (W3.setCell ⟨rb,1,none⟩ (.slice (some ⟨tb,0,none⟩) m c))):=⟨hrd,hkp.size,hkp.loc⟩
   subst hm
   have p1':=qo p1 (.cells #[.string xt,.int .i64 0,.int .i64 0,.bool false] 153)
   have b1':=qo b1 (.cells #[.string xt,.int .i64 0,.int .i64 0,.bool false] 153)
   clear hrun hrd hkp hbox q3 q4 z3 z4 hf h40
   go_upto_region 6 with fail
   go_cut [40] (fun s40 wd=>Hid (RD w wd rb ⟨wb,wo,wl,some ⟨tb,0,none⟩,c,ra,rc⟩ ⟨S.ws,S.ts++[⟨xt,0,0⟩],S.ls++[false],S.lv,S.st,S.ed,S.ex,S.rs⟩ qs/\Keep W2 wd))
   case first =>
    go_region_law (refine zc rfl (.tmp 34) (.tmp 39) rfl rfl (by simp [Act.eval]) (by simp [Act.eval]) hrun2 ?_)
    all_goals (go_wp2_with fail;go_meet;exact HD)
   case rest =>
    obtain ⟨W4,hW4⟩:∃ W4,W4=wc:=⟨_,rfl⟩
    subst wc
    have HD4:Hid (RD w W4 rb ⟨wb,wo,wl,some ⟨tb,0,none⟩,c,ra,rc⟩ ⟨S.ws,S.ts++[⟨xt,0,0⟩],S.ls++[false],S.lv,S.st,S.ed,S.ex,S.rs⟩ qs/\Keep W2 W4):=hcut
    clear hcut HD d1 f1 b1 b1' p1 p1' hrun2
    have t2:=HD4.out.2.loc _ _ _ (qf HB2.out HBX.out.2) (by decide) (by decide) (by decide) (by decide)
    have q3:W4.cell? ⟨nb+1,0,none⟩=some (.int .i64 0):=by rw [qe t2];rfl
    have q4:W4.cell? ⟨nb+1,1,none⟩=some (.int .i64 0):=by rw [qe t2];rfl
    have z3:W4.frozen? ⟨nb+1,0,none⟩=false:=qi t2 0
    have z4:W4.frozen? ⟨nb+1,1,none⟩=false:=qi t2 1
    have HL4:Hid (Loc W4 (nb+1) 125):=⟨_,t2⟩
    have b1:W4.cell? ⟨rb,1,none⟩=some (.slice (some ⟨tb,0,none⟩) (n+1) c):=by
     rw [qe HD4.out.1.box]
     unfold rdC
     simp only [List.length_append,List.length_cons,List.length_nil,HN.out]
     rfl
    obtain ⟨hl2,hm2⟩:=HD4.out.1.tlen
    simp only [List.length_append,List.length_cons,List.length_nil,HN.out] at hl2 hm2
    have hw2:(n:Int)<(n:Int)+1:=by omega
    clear t2
    go_upto_region 7 with fail
    go_region
    all_goals
     go_wp2_with fail
     refine bodyPost_ret (v:=.tuple #[.pointer (some ⟨tb,n * 4,none⟩),.agg #[.int .i64 0,.int .i64 0]]) (by simp [results,Tryz.results156,go_sem, *]) rfl ?_
     rw [HF.out]
     have hn:W.heap.size<=nb:=Nat.le_of_eq HNB.out.1.symm
     have hk:Keep W W4:=(qp (qd HB1.out HB2.out)).trans HD4.out.2
     have hk2:=(hk.far (b:=nb+1) (by omega) 0 (.int .i64 0)).far (b:=nb+1) (by omega) 1 (.int .i64 0)
     have hr2:=((HD4.out.1.far (j:=0) (u:=.int .i64 0) HL4.out (by decide) (by have:=HWW.out;omega)).far (j:=1) (u:=.int .i64 0) (HL4.out.set _ _ _) (by decide) (by have:=HWW.out;omega)).step (qk _)
     exact ⟨⟨wb,wo,wl,some ⟨tb,0,none⟩,c,ra,rc⟩,tb,rfl,rfl,hr2,hk2.size,hk2.loc⟩
theorem qfx {α:Type}:∀ {l:List α} {i:Nat} {x:α},l[i]?=some x->l.set i x=l
 | [],_,_,h=>by cases h
 | y :: r,0,x,h=>by cases h;rfl
 | y :: r,i+1,x,h=>by
  rw [List.set_cons_succ,qfx (l:=r) (by simpa using h)]
theorem qmc {α β:Type}:∀ {l:List α} {m:List β} {i:Nat} {x:α} {y:β},(l.set i x).zip (m.set i y)=(l.zip m).set i (x,y)
 | [],m,i,x,y=>by simp
 | a :: l,[],i,x,y=>by simp
 | a :: l,b :: m,0,x,y=>rfl
 | a :: l,b :: m,i+1,x,y=>by
  simp only [List.set_cons_succ,List.zip_cons_cons]
  rw [qmc]
theorem RD.setTok {w W:World} {rb tb:Nat} {h:RHd} {S:St} {qs:List (Ru × Option Addr × Nat)} (r:RD w W rb h S qs) (hta:h.ta=some ⟨tb,0,none⟩) {i j:Nat} {t t':Tk} {b b':Bool} (ht:S.ts[i]?=some t) (hb:S.ls[i]?=some b) (hj:j<4) (u:Value)
  (hc:([.string t.n,.int .i64 t.l,.int .i64 t.a,.bool b]:List Value).set j u=[.string t'.n,.int .i64 t'.l,.int .i64 t'.a,.bool b']) :
  RD w (W.setCell ⟨tb,i * 4+j,none⟩ u) rb h ⟨S.ws,S.ts.set i t',S.ls.set i b',S.lv,S.st,S.ed,S.ex,S.rs⟩ qs/\Keep W (W.setCell ⟨tb,i * 4+j,none⟩ u):=by
 have ho:=r.tok
 rw [hta] at ho
 have hl:Loc W tb 153:=qx ho rfl
 have far:∀ {E k n:Nat} {v:Value} {cs:List Value},W.ownsRow w.heap.size E k v n cs->E≠153->(W.setCell ⟨tb,i * 4+j,none⟩ u).ownsRow w.heap.size E k v n cs:=by
  intro E k n v cs ho hE
  exact qh ho (fun i hi=>Below.heap_setCell _ _ _ _ (qr (qx ho hi) hl hE))
 have hz:(S.ts.zip S.ls)[i]?=some (t,b):=by rw [List.getElem?_zip_eq_some];exact ⟨ht,hb⟩
 refine ⟨⟨?_,r.wds,?_,far r.rul (by decide),r.map,fun q hq=>far (r.row q hq) (by decide),?_,r.new,?_⟩,(Keep.refl W).set hl (.inr (.inl rfl)) _ _⟩
 ·rw [Below.heap_setCell _ _ _ _ (qr ⟨_,r.box⟩ hl (by decide)),r.box]
  unfold rdC
  simp only [List.length_set]
 ·have h1:=ql3 (u:=u) (j:=i * 4+j) ho
  have h2:(rtC (S.ts.zip S.ls)).set (i * 4+j) u=rtC ((S.ts.set i t').zip (S.ls.set i b')):=by
   rw [qmc]
   exact qjs _ (fun _=>rfl) (t',b') j u (S.ts.zip S.ls) i (t,b) hz hj hc
  rw [h2] at h1
  simp only [List.length_set]
  rw [hta]
  exact h1
 ·exact r.bel.setCell (p:=⟨tb,i * 4+j,none⟩) (World.ownsRow.lt ho tb rfl).1 _
 ·exact ⟨r.ok.ends,by simp only [List.length_set];exact r.ok.nt,by simp only [List.length_set];exact r.ok.nl,r.ok.lv,r.ok.nr⟩
def kf (R:Except Flt St):Flt:=match R with | .ok _=>(0,0) | .error f=>f
def Did (w W:World) (rb:Nat) (qs:List (Ru × Option Addr × Nat)) (R:Except Flt St) (e:Ending) (W':World):Prop :=
 ∃ h' S',e=.returned (fv (kf R))/\RD w W' rb h' S' qs/\Keep W W'/\∀ S1,R=.ok S1->S'=S1
theorem zf {w W W':World} {rb b:Nat} {h':RHd} {S':St} {qs:List (Ru × Option Addr × Nat)} {R:Except Flt St} {f1 f2:Int} (r:RD w W' rb h' S' qs) (k:Keep W W') (hl:Loc W' b 125) (hb:W.heap.size<=b) (hw:w.heap.size<=W.heap.size) (hf:kf R=(f1,f2)) (hs:∀ S1,R=.ok S1->S'=S1) :
  Did w W rb qs R (.returned (.agg #[.int .i64 f1,.int .i64 f2])) ((W'.setCell ⟨b,0,none⟩ (.int .i64 f1)).setCell ⟨b,1,none⟩ (.int .i64 f2)):=by
 refine ⟨h',S',by rw [hf];rfl,?_,(k.far hb _ _).far hb _ _,hs⟩
 exact (r.far hl (by decide) (by omega)).far (hl.set _ _ _) (by decide) (by omega)
theorem zg {W:World} {b:Nat} {a c:Value} (h:W.heap[b]?=some (.cells #[a,c] 125 (0,0))):W.cell? ⟨b,0,none⟩=some a/\W.cell? ⟨b,1,none⟩=some c/\W.frozen? ⟨b,0,none⟩=false/\W.frozen? ⟨b,1,none⟩=false :=
 ⟨by rw [qe h];rfl,by rw [qe h];rfl,qi h 0,qi h 1⟩
theorem yy {W:World} {b:Nat} {a c d:Value} (h:W.heap[b]?=some (.cells #[a,c,d] 149 (0,0))):W.cell? ⟨b,0,none⟩=some a/\W.cell? ⟨b,1,none⟩=some c/\W.cell? ⟨b,2,none⟩=some d :=
 ⟨by rw [qe h];rfl,by rw [qe h];rfl,by rw [qe h];rfl⟩
theorem qke (x:Wd) (w W:World) (rb:Nat) (h:RHd) (S:St) (qs:List (Ru × Option Addr × Nat)) (r:RD w W rb h S qs) :
  Calls Tryz.prog 138 #[.pointer (some ⟨rb,0,none⟩),wv x] W fun e W'=>Did w W rb qs (ki x S) e W':=by
 obtain ⟨xk,xt,xa⟩:=x
 have hB:Below W.heap.size W ((W.alloc (.cells #[.int .i64 xk,.string xt,.int .i64 xa] 149)).alloc (.cells #[.int .i64 0,.int .i64 0] 125)):=qd (qb _ _) (qb _ _)
 have hb0:((W.alloc (.cells #[.int .i64 xk,.string xt,.int .i64 xa] 149)).alloc (.cells #[.int .i64 0,.int .i64 0] 125)).heap[W.heap.size]?=some (.cells #[.int .i64 xk,.string xt,.int .i64 xa] 149 (0,0)):=qf (qb _ _) (heap_alloc_new _ _)
 have hb1:((W.alloc (.cells #[.int .i64 xk,.string xt,.int .i64 xa] 149)).alloc (.cells #[.int .i64 0,.int .i64 0] 125)).heap[W.heap.size+1]?=some (.cells #[.int .i64 0,.int .i64 0] 125 (0,0)):=by
  have:=heap_alloc_new (W.alloc (.cells #[.int .i64 xk,.string xt,.int .i64 xa] 149)) (.cells #[.int .i64 0,.int .i64 0] 125)
  rwa [qt] at this
 have HR:Hid (RD w ((W.alloc (.cells #[.int .i64 xk,.string xt,.int .i64 xa] 149)).alloc (.cells #[.int .i64 0,.int .i64 0] 125)) rb h S qs):=r.step hB
 have HWW:Hid (w.heap.size<=W.heap.size):=r.bel.size
 have HOK:Hid (StOk S):=r.ok
 clear r
 unfold wv
 simp only
 go_enter Tryz.func138,Tryz.ntmps138
 go_upto_region 1 with fail
 generalize (W.alloc (.cells #[.int .i64 xk,.string xt,.int .i64 xa] 149)).alloc (.cells #[.int .i64 0,.int .i64 0] 125)=W1 at hB hb0 hb1 HR ⊢
 obtain ⟨nb,hnb⟩:∃ nb,nb=W.heap.size:=⟨_,rfl⟩
 rw [<-hnb] at hb0 hb1 ⊢
 have HNB:Hid (W.heap.size<=nb):=Nat.le_of_eq hnb.symm
 have HB1:Hid (Below W.heap.size W W1):=hB
 have HBX:Hid (W1.heap[nb]?=some (.cells #[.int .i64 xk,.string xt,.int .i64 xa] 149 (0,0))/\W1.heap[nb+1]?=some (.cells #[.int .i64 0,.int .i64 0] 125 (0,0))):=⟨hb0,hb1⟩
 have p0:W1.cell? ⟨nb,0,none⟩=some (.int .i64 xk):=by rw [qe hb0];rfl
 have p1:W1.cell? ⟨nb,1,none⟩=some (.string xt):=by rw [qe hb0];rfl
 have p2:W1.cell? ⟨nb,2,none⟩=some (.int .i64 xa):=by rw [qe hb0];rfl
 clear hb0 hb1 hnb hB
 have HC:Hid (Calls Tryz.prog 156 #[.pointer (some ⟨rb,0,none⟩),.agg #[.int .i64 xk,.string xt,.int .i64 xa]] W1 fun e W'=>TokA w W1 rb qs (tokP ⟨xk,xt,xa⟩ S) e W'):=qdy ⟨xk,xt,xa⟩ w W1 rb h S qs HR.out
 go_wp2_with fail
 refine HC.out.mono ?_
 intro e W2 hA
 clear HC p0 p1 p2
 cases hR:tokP ⟨xk,xt,xa⟩ S with
 | error f =>
  rw [hR] at hA
  obtain ⟨rfl,⟨h',S',hrd⟩,hkp⟩:=hA
  obtain ⟨f1,f2⟩:=f
  have HF:Hid (ki ⟨xk,xt,xa⟩ S=.error (f1,f2)):=by
   show _=_
   unfold ki
   rw [hR]
  have hf1:(f1 == 0)=false:=by
   unfold tokP at hR
   split at hR
   ·cases hR
   ·split at hR
    ·cases hR
     rfl
    ·cases hR
  have hf1':(f1 != 0)=true:=by simpa using hf1
  have HD:Hid (RD w W2 rb h' S' qs/\Keep W1 W2):=⟨hrd,hkp⟩
  have t2:=hkp.loc _ _ _ HBX.out.2 (by decide) (by decide) (by decide) (by decide)
  have t3:=qf (qb W2 (.cells #[.int .i64 f1,.int .i64 f2] 125)) t2
  obtain ⟨q3,q4,z3,z4⟩:=zg t3
  have HL:Hid (Loc (W2.alloc (.cells #[.int .i64 f1,.int .i64 f2] 125)) (nb+1) 125):=⟨_,t3⟩
  clear hrd hkp t2 t3 hf1 hR
  unfold fv
  simp only
  go_wp2_with fail
  refine bodyPost_ret (v:=.agg #[.int .i64 f1,.int .i64 f2]) (by simp [results,Tryz.results138,go_sem, *]) rfl ?_
  exact zf (HD.out.1.step (qb _ _)) (((qp HB1.out).trans HD.out.2).trans (qp (qb _ _))) HL.out (Nat.le_succ_of_le HNB.out) HWW.out (by rw [HF.out];rfl) (fun S1 h=>by rw [HF.out] at h;cases h)
 | ok p =>
  obtain ⟨i,S1⟩:=p
  rw [hR] at hA
  obtain ⟨h',tb,rfl,hta,hrd,hkp⟩:=hA
  obtain ⟨-,hi,-,-⟩:=qcv HOK.out hR
  obtain ⟨t,ht⟩:∃ t,S1.ts[i]?=some t:=⟨S1.ts[i],List.getElem?_eq_getElem hi⟩
  obtain ⟨tb',b,hta',hlb,-,-,-,c3,fz⟩:=hrd.tokAt ht
  rw [hta] at hta'
  cases hta'
  have HD:Hid (RD w W2 rb h' S1 qs/\Keep W1 W2/\h'.ta=some ⟨tb,0,none⟩/\S1.ts[i]?=some t/\S1.ls[i]?=some b):=⟨hrd,hkp,hta,ht,hlb⟩
  have t1:=hkp.loc _ _ _ HBX.out.1 (by decide) (by decide) (by decide) (by decide)
  have t2:=hkp.loc _ _ _ HBX.out.2 (by decide) (by decide) (by decide) (by decide)
  have HT:Hid (W2.heap[nb]?=some (.cells #[.int .i64 xk,.string xt,.int .i64 xa] 149 (0,0))/\W2.heap[nb+1]?=some (.cells #[.int .i64 0,.int .i64 0] 125 (0,0))):=⟨t1,t2⟩
  have c3':=qo c3 (.cells #[.int .i64 0,.int .i64 0] 125)
  have z5:(W2.alloc (.cells #[.int .i64 0,.int .i64 0] 125)).frozen? ⟨tb,i * 4+3,none⟩=false:=by
   obtain ⟨c,hc⟩:Loc W2 tb 153:=qx (by have:=hrd.tok;rw [hta] at this;exact this) rfl
   exact qi (qf (qb _ _) hc) _
  have HLR:Hid (ki ⟨xk,xt,xa⟩ S=if b=true then .error (jb ⟨xk,xt,xa⟩) else .ok ⟨S1.ws,S1.ts,S1.ls.set i true,S1.lv,S1.st,S1.ed,S1.ex,S1.rs⟩):=by
   show _=_
   unfold ki
   rw [hR]
   simp only [hlb,Option.getD_some]
  clear hrd hkp hta ht hlb hi hR fz t1 t2 c3
  unfold fv
  simp only
  cases b
  ·have HF:Hid (ki ⟨xk,xt,xa⟩ S=.ok ⟨S1.ws,S1.ts,S1.ls.set i true,S1.lv,S1.st,S1.ed,S1.ex,S1.rs⟩):=by
    show _=_
    have:=HLR.out
    simpa using this
   clear HLR
   have hst:=(HD.out.1.step (qb W2 (.cells #[.int .i64 0,.int .i64 0] 125))).setTok (t':=t) (b':=true) (j:=3) HD.out.2.2.1 HD.out.2.2.2.1 HD.out.2.2.2.2 (by omega) (.bool true) rfl
   rw [qfx HD.out.2.2.2.1] at hst
   have t3:=qf (qb W2 (.cells #[.int .i64 0,.int .i64 0] 125)) HT.out.2
   have t4:=hst.2.loc _ _ _ t3 (by decide) (by decide) (by decide) (by decide)
   obtain ⟨q3,q4,z3,z4⟩:=zg t4
   have HS:Hid (RD w ((W2.alloc (.cells #[.int .i64 0,.int .i64 0] 125)).setCell ⟨tb,i * 4+3,none⟩ (.bool true)) rb h' ⟨S1.ws,S1.ts,S1.ls.set i true,S1.lv,S1.st,S1.ed,S1.ex,S1.rs⟩ qs/\Keep (W2.alloc (.cells #[.int .i64 0,.int .i64 0] 125)) ((W2.alloc (.cells #[.int .i64 0,.int .i64 0] 125)).setCell ⟨tb,i * 4+3,none⟩ (.bool true))/\Loc ((W2.alloc (.cells #[.int .i64 0,.int .i64 0] 125)).setCell ⟨tb,i * 4+3,none⟩ (.bool true)) (nb+1) 125):=⟨hst.1,hst.2,⟨_,t4⟩⟩
   clear hst t3 t4
   go_wp2_with fail
   refine bodyPost_ret (v:=.agg #[.int .i64 0,.int .i64 0]) (by simp [results,Tryz.results138,go_sem, *]) rfl ?_
   exact zf HS.out.1 ((((qp HB1.out).trans HD.out.2.1).trans (qp (qb _ _))).trans HS.out.2.1) HS.out.2.2 (Nat.le_succ_of_le HNB.out) HWW.out (by rw [HF.out];rfl) (fun S1 h=>by rw [HF.out] at h;cases h;rfl)
  ·have HF:Hid (ki ⟨xk,xt,xa⟩ S=.error (jb ⟨xk,xt,xa⟩)):=by
    show _=_
    have:=HLR.out
    simpa using this
   clear HLR
   obtain ⟨p0,p1,p2⟩:=yy (qf (qb W2 (.cells #[.int .i64 0,.int .i64 0] 125)) HT.out.1)
   go_wp2_with fail
   refine (qaz ⟨xk,xt,xa⟩ _).mono ?_
   rintro e W3 ⟨rfl,hB⟩
   have HB3:Hid (Below W2.heap.size W2 W3):=qd (qb _ _) hB
   clear hB p0 p1 p2 c3' z5
   obtain ⟨q3,q4,z3,z4⟩:=zg (qf HB3.out HT.out.2)
   unfold fv jb
   simp only
   go_wp2_with fail
   refine bodyPost_ret (v:=.agg #[.int .i64 7,.int .i64 xa]) (by simp [results,Tryz.results138,go_sem, *]) rfl ?_
   exact zf (HD.out.1.step HB3.out) (((qp HB1.out).trans HD.out.2.1).trans (qp HB3.out)) ⟨_,qf HB3.out HT.out.2⟩ (Nat.le_succ_of_le HNB.out) HWW.out (by rw [HF.out];rfl) (fun S1 h=>by rw [HF.out] at h;cases h)
theorem Did.step {w W W' W'':World} {rb:Nat} {qs:List (Ru × Option Addr × Nat)} {R:Except Flt St} {e:Ending} (d:Did w W rb qs R e W') (hb:Below W'.heap.size W' W''):Did w W rb qs R e W'':=by
 obtain ⟨h',S',h1,h2,h3,h4⟩:=d
 exact ⟨h',S',h1,h2.step hb,h3.trans (qp hb),h4⟩
theorem qkf (a:Int) (cr ca:Nat) (x:Wd) (w W:World) (rb:Nat) (h:RHd) (S:St) (qs:List (Ru × Option Addr × Nat)) (r:RD w W rb h S qs) (hcr:W.heap[cr]?=some (.cells #[.pointer (some ⟨rb,0,none⟩)] 150 (0,0))) (hca:W.heap[ca]?=some (.cells #[.int .i64 a] 3 (0,0))) :
  Calls Tryz.prog 158 #[wv x,.pointer (some ⟨cr,0,none⟩),.pointer (some ⟨ca,0,none⟩)] W fun e W'=>Did w W rb qs (levP (S.lv:Int) a x S) e W':=by
 obtain ⟨xk,xt,xa⟩:=x
 have hB:Below W.heap.size W ((W.alloc (.cells #[.int .i64 xk,.string xt,.int .i64 xa] 149)).alloc (.cells #[.int .i64 0,.int .i64 0] 125)):=qd (qb _ _) (qb _ _)
 have hb0:((W.alloc (.cells #[.int .i64 xk,.string xt,.int .i64 xa] 149)).alloc (.cells #[.int .i64 0,.int .i64 0] 125)).heap[W.heap.size]?=some (.cells #[.int .i64 xk,.string xt,.int .i64 xa] 149 (0,0)):=qf (qb _ _) (heap_alloc_new _ _)
 have hb1:((W.alloc (.cells #[.int .i64 xk,.string xt,.int .i64 xa] 149)).alloc (.cells #[.int .i64 0,.int .i64 0] 125)).heap[W.heap.size+1]?=some (.cells #[.int .i64 0,.int .i64 0] 125 (0,0)):=by
  have:=heap_alloc_new (W.alloc (.cells #[.int .i64 xk,.string xt,.int .i64 xa] 149)) (.cells #[.int .i64 0,.int .i64 0] 125)
  rwa [qt] at this
 have HR:Hid (RD w ((W.alloc (.cells #[.int .i64 xk,.string xt,.int .i64 xa] 149)).alloc (.cells #[.int .i64 0,.int .i64 0] 125)) rb h S qs):=r.step hB
 have HWW:Hid (w.heap.size<=W.heap.size):=r.bel.size
 have HOK:Hid (StOk S):=r.ok
 have HCP:Hid (∀ V:World,Keep W V->V.heap[cr]?=some (.cells #[.pointer (some ⟨rb,0,none⟩)] 150 (0,0))/\V.heap[ca]?=some (.cells #[.int .i64 a] 3 (0,0))):=fun V hV=>⟨hV.loc _ _ _ hcr (by decide) (by decide) (by decide) (by decide),hV.loc _ _ _ hca (by decide) (by decide) (by decide) (by decide)⟩
 clear hcr hca
 clear r
 unfold wv
 simp only
 go_enter Tryz.func158,Tryz.ntmps158
 go_upto_region 1 with fail
 generalize (W.alloc (.cells #[.int .i64 xk,.string xt,.int .i64 xa] 149)).alloc (.cells #[.int .i64 0,.int .i64 0] 125)=W1 at hB hb0 hb1 HR ⊢
 obtain ⟨nb,hnb⟩:∃ nb,nb=W.heap.size:=⟨_,rfl⟩
 rw [<-hnb] at hb0 hb1 ⊢
 have HNB:Hid (W.heap.size<=nb):=Nat.le_of_eq hnb.symm
 have HB1:Hid (Below W.heap.size W W1):=hB
 have HBX:Hid (W1.heap[nb]?=some (.cells #[.int .i64 xk,.string xt,.int .i64 xa] 149 (0,0))/\W1.heap[nb+1]?=some (.cells #[.int .i64 0,.int .i64 0] 125 (0,0))):=⟨hb0,hb1⟩
 have p0:W1.cell? ⟨nb,0,none⟩=some (.int .i64 xk):=by rw [qe hb0];rfl
 have p1:W1.cell? ⟨nb,1,none⟩=some (.string xt):=by rw [qe hb0];rfl
 have p2:W1.cell? ⟨nb,2,none⟩=some (.int .i64 xa):=by rw [qe hb0];rfl
 clear hb0 hb1 hnb hB
 have s0:W1.cell? ⟨cr,0,none⟩=some (.pointer (some ⟨rb,0,none⟩)):=by rw [qe (HCP.out _ (qp HB1.out)).1];rfl
 have HC:Hid (Calls Tryz.prog 156 #[.pointer (some ⟨rb,0,none⟩),.agg #[.int .i64 xk,.string xt,.int .i64 xa]] W1 fun e W'=>TokA w W1 rb qs (tokP ⟨xk,xt,xa⟩ S) e W'):=qdy ⟨xk,xt,xa⟩ w W1 rb h S qs HR.out
 go_wp2_with fail
 refine HC.out.mono ?_
 intro e W2 hA
 clear HC p0 p1 p2 s0
 cases hR:tokP ⟨xk,xt,xa⟩ S with
 | error f =>
  rw [hR] at hA
  obtain ⟨rfl,⟨h',S',hrd⟩,hkp⟩:=hA
  obtain ⟨f1,f2⟩:=f
  have HF:Hid (levP (S.lv:Int) a ⟨xk,xt,xa⟩ S=.error (f1,f2)):=by
   show _=_
   unfold levP
   rw [hR]
  have hf1:(f1 == 0)=false:=by
   unfold tokP at hR
   split at hR
   ·cases hR
   ·split at hR
    ·cases hR
     rfl
    ·cases hR
  have hf1':(f1 != 0)=true:=by simpa using hf1
  have HD:Hid (RD w W2 rb h' S' qs/\Keep W1 W2):=⟨hrd,hkp⟩
  have t2:=hkp.loc _ _ _ HBX.out.2 (by decide) (by decide) (by decide) (by decide)
  have t3:=qf (qb W2 (.cells #[.int .i64 f1,.int .i64 f2] 125)) t2
  obtain ⟨q3,q4,z3,z4⟩:=zg t3
  have HL:Hid (Loc (W2.alloc (.cells #[.int .i64 f1,.int .i64 f2] 125)) (nb+1) 125):=⟨_,t3⟩
  clear hrd hkp t2 t3 hf1 hR
  unfold fv
  simp only
  go_wp2_with fail
  refine bodyPost_ret (v:=.agg #[.int .i64 f1,.int .i64 f2]) (by simp [results,Tryz.results158,go_sem, *]) rfl ?_
  exact zf (HD.out.1.step (qb _ _)) (((qp HB1.out).trans HD.out.2).trans (qp (qb _ _))) HL.out (Nat.le_succ_of_le HNB.out) HWW.out (by rw [HF.out];rfl) (fun S1 h=>by rw [HF.out] at h;cases h)
 | ok p =>
  obtain ⟨i,S1⟩:=p
  rw [hR] at hA
  obtain ⟨h',tb,rfl,hta,hrd,hkp⟩:=hA
  obtain ⟨-,hi,-,-⟩:=qcv HOK.out hR
  obtain ⟨t,ht⟩:∃ t,S1.ts[i]?=some t:=⟨S1.ts[i],List.getElem?_eq_getElem hi⟩
  obtain ⟨tb',b,hta',hlb,-,c1,c2,-,-⟩:=hrd.tokAt ht
  rw [hta] at hta'
  cases hta'
  have HD:Hid (RD w W2 rb h' S1 qs/\Keep W1 W2/\h'.ta=some ⟨tb,0,none⟩/\S1.ts[i]?=some t/\S1.ls[i]?=some b):=⟨hrd,hkp,hta,ht,hlb⟩
  have hkW:Keep W W2:=(qp HB1.out).trans hkp
  have t1:=hkp.loc _ _ _ HBX.out.1 (by decide) (by decide) (by decide) (by decide)
  have t2:=hkp.loc _ _ _ HBX.out.2 (by decide) (by decide) (by decide) (by decide)
  have HT:Hid (W2.heap[nb]?=some (.cells #[.int .i64 xk,.string xt,.int .i64 xa] 149 (0,0))/\W2.heap[nb+1]?=some (.cells #[.int .i64 0,.int .i64 0] 125 (0,0))/\Keep W W2):=⟨t1,t2,hkW⟩
  have c1':=qo c1 (.cells #[.int .i64 0,.int .i64 0] 125)
  have c2':=qo c2 (.cells #[.int .i64 0,.int .i64 0] 125)
  have hl78:Loc W2 tb 153:=qx (by have:=hrd.tok;rw [hta] at this;exact this) rfl
  obtain ⟨c78,h78⟩:=hl78
  have z5:(W2.alloc (.cells #[.int .i64 0,.int .i64 0] 125)).frozen? ⟨tb,i * 4+1,none⟩=false:=qi (qf (qb _ _) h78) _
  have z6:(W2.alloc (.cells #[.int .i64 0,.int .i64 0] 125)).frozen? ⟨tb,i * 4+2,none⟩=false:=qi (qf (qb _ _) h78) _
  obtain ⟨hlv1,hlv2,hlv3,hlv4⟩:=qcv HOK.out hR
  have HLV:Hid (S1.lv=S.lv):=hlv4
  have HLR:Hid (levP (S.lv:Int) a ⟨xk,xt,xa⟩ S=if t.l≠0 then .error (jb ⟨xk,xt,xa⟩) else .ok ⟨S1.ws,S1.ts.set i ⟨t.n,(S.lv:Int),a⟩,S1.ls,S1.lv,S1.st,S1.ed,S1.ex,S1.rs⟩):=by
   show _=_
   unfold levP
   rw [hR]
   have e:tkAt S1.ts i=t:=by unfold tkAt;rw [ht];rfl
   simp only [e]
  obtain ⟨tn,tl,tA⟩:=t
  simp only at c1 c2 c1' c2' HLR
  clear hrd hkp hta ht hlb hi hR t1 t2 c1 c2 hlv1 hlv2 hlv3 hlv4 hkW h78
  unfold fv
  simp only
  by_cases htl:tl=0
  ·have hq:(tl != 0)=false:=by simp [htl]
   have HF:Hid (levP (S.lv:Int) a ⟨xk,xt,xa⟩ S=.ok ⟨S1.ws,S1.ts.set i ⟨tn,(S.lv:Int),a⟩,S1.ls,S1.lv,S1.st,S1.ed,S1.ex,S1.rs⟩):=by
    show _=_
    have:=HLR.out
    rw [if_neg (by simpa using htl)] at this
    exact this
   clear HLR htl
   have hst1:=(HD.out.1.step (qb W2 (.cells #[.int .i64 0,.int .i64 0] 125))).setTok (t':=⟨tn,(S.lv:Int),tA⟩) (b':=b) (j:=1) HD.out.2.2.1 HD.out.2.2.2.1 HD.out.2.2.2.2 (by omega) (.int .i64 (S.lv:Int)) rfl
   have hst2:=hst1.1.setTok (t:=⟨tn,(S.lv:Int),tA⟩) (t':=⟨tn,(S.lv:Int),a⟩) (b:=b) (b':=b) (i:=i) (j:=2) HD.out.2.2.1 (by simp only;rw [List.getElem?_set_self (List.getElem?_eq_some_iff.1 HD.out.2.2.2.1).1]) (by simp only;rw [List.getElem?_set_self (List.getElem?_eq_some_iff.1 HD.out.2.2.2.2).1]) (by omega) (.int .i64 a) rfl
   simp only [List.set_set] at hst2
   rw [qfx HD.out.2.2.2.2] at hst2
   have hkA:Keep W (W2.alloc (.cells #[.int .i64 0,.int .i64 0] 125)):=HT.out.2.2.trans (qp (qb _ _))
   have s0:(W2.alloc (.cells #[.int .i64 0,.int .i64 0] 125)).cell? ⟨cr,0,none⟩=some (.pointer (some ⟨rb,0,none⟩)):=by rw [qe (HCP.out _ hkA).1];rfl
   have s1:(W2.alloc (.cells #[.int .i64 0,.int .i64 0] 125)).cell? ⟨ca,0,none⟩=some (.int .i64 a):=by rw [qe (HCP.out _ hkA).2];rfl
   have s2:(W2.alloc (.cells #[.int .i64 0,.int .i64 0] 125)).cell? ⟨rb,2,none⟩=some (.int .i64 (S.lv:Int)):=by
    rw [qe (HD.out.1.step (qb _ _)).box,<-HLV.out];rfl
   have t3:=qf (qb W2 (.cells #[.int .i64 0,.int .i64 0] 125)) HT.out.2.1
   have t4:=hst2.2.loc _ _ _ (hst1.2.loc _ _ _ t3 (by decide) (by decide) (by decide) (by decide)) (by decide) (by decide) (by decide) (by decide)
   obtain ⟨q3,q4,z3,z4⟩:=zg t4
   have HS:Hid (RD w (((W2.alloc (.cells #[.int .i64 0,.int .i64 0] 125)).setCell ⟨tb,i * 4+1,none⟩ (.int .i64 (S.lv:Int))).setCell ⟨tb,i * 4+2,none⟩ (.int .i64 a)) rb h' ⟨S1.ws,S1.ts.set i ⟨tn,(S.lv:Int),a⟩,S1.ls,S1.lv,S1.st,S1.ed,S1.ex,S1.rs⟩ qs/\Keep W (((W2.alloc (.cells #[.int .i64 0,.int .i64 0] 125)).setCell ⟨tb,i * 4+1,none⟩ (.int .i64 (S.lv:Int))).setCell ⟨tb,i * 4+2,none⟩ (.int .i64 a))/\Loc (((W2.alloc (.cells #[.int .i64 0,.int .i64 0] 125)).setCell ⟨tb,i * 4+1,none⟩ (.int .i64 (S.lv:Int))).setCell ⟨tb,i * 4+2,none⟩ (.int .i64 a)) (nb+1) 125):=⟨hst2.1,(hkA.trans hst1.2).trans hst2.2,⟨_,t4⟩⟩
   clear hst1 hst2 t3 t4 hkA
   go_upto_region 6 with fail
   go_region
   all_goals
    go_wp2_with fail
    refine bodyPost_ret (v:=.agg #[.int .i64 0,.int .i64 0]) (by simp [results,Tryz.results158,go_sem, *]) rfl ?_
    exact (zf HS.out.1 HS.out.2.1 HS.out.2.2 (Nat.le_succ_of_le HNB.out) HWW.out (by rw [HF.out];rfl) (fun S1 h=>by rw [HF.out] at h;cases h;rfl)).step (qk _)
  ·have hq:(tl != 0)=true:=by simp [htl]
   have HF:Hid (levP (S.lv:Int) a ⟨xk,xt,xa⟩ S=.error (jb ⟨xk,xt,xa⟩)):=by
    show _=_
    have:=HLR.out
    rw [if_pos htl] at this
    exact this
   clear HLR htl
   obtain ⟨p0,p1,p2⟩:=yy (qf (qb W2 (.cells #[.int .i64 0,.int .i64 0] 125)) HT.out.1)
   go_wp2_with fail
   refine (qaz ⟨xk,xt,xa⟩ _).mono ?_
   rintro e W3 ⟨rfl,hB⟩
   have HB3:Hid (Below W2.heap.size W2 W3):=qd (qb _ _) hB
   clear hB p0 p1 p2 c1' c2' z5 z6
   obtain ⟨q3,q4,z3,z4⟩:=zg (qf HB3.out HT.out.2.1)
   unfold fv jb
   simp only
   go_wp2_with fail
   refine bodyPost_ret (v:=.agg #[.int .i64 7,.int .i64 xa]) (by simp [results,Tryz.results158,go_sem, *]) rfl ?_
   exact zf (HD.out.1.step HB3.out) (HT.out.2.2.trans (qp HB3.out)) ⟨_,qf HB3.out HT.out.2.1⟩ (Nat.le_succ_of_le HNB.out) HWW.out (by rw [HF.out];rfl) (fun S1 h=>by rw [HF.out] at h;cases h)
theorem ju (k:Int) (S:St):(S.hd.k=k/\kv k S=.ok (S.hd,S.next)/\takeW k S=S.hd/\takeS k S=S.next/\jp k S=(0,0))\/(S.hd.k≠k/\kv k S=.error (zj S.hd)/\jp k S=zj S.hd/\takeS k S=S):=by
 by_cases h:S.hd.k=k
 ·left
  unfold kv takeW takeS jp
  rw [if_pos h,if_pos h,if_pos h,if_pos h]
  exact ⟨h,rfl,rfl,rfl,rfl⟩
 ·right
  unfold kv takeS jp
  rw [if_neg h,if_neg h,if_neg h]
  exact ⟨h,rfl,rfl,rfl⟩
theorem qkg {x:Wd} {S:St} {f:Flt} (h:tokP x S=.error f):f=zj x:=by
 unfold tokP at h
 split at h
 ·cases h
 ·split at h
  ·cases h;rfl
  ·cases h
theorem qie {x:Wd} {S:St} {f:Flt} (h:ki x S=.error f):f.1≠0:=by
 unfold ki at h
 split at h
 ·rename_i f' h'
  cases h
  rw [qkg h']
  show (1:Int)≠0
  decide
 ·split at h
  ·cases h
   show (7:Int)≠0
   decide
  ·cases h
theorem qkh {l a:Int} {x:Wd} {S:St} {f:Flt} (h:levP l a x S=.error f):f.1≠0:=by
 unfold levP at h
 split at h
 ·rename_i f' h'
  cases h
  rw [qkg h']
  show (1:Int)≠0
  decide
 ·split at h
  ·cases h
   show (7:Int)≠0
   decide
  ·cases h
theorem qhs (w W:World) (rb:Nat) (h:RHd) (S:St) (qs:List (Ru × Option Addr × Nat)) (r:RD w W rb h S qs) (f0:Nat) (hf0:S.ws.length<=f0) :
  Calls Tryz.prog 137 #[.pointer (some ⟨rb,0,none⟩),.func (.func 138) #[.pointer (some ⟨rb,0,none⟩)] #[]] W fun e W'=>Did w W rb qs (zt (ki) f0 S) e W':=by
 have hrb:Loc W rb 139:=⟨_,r.box⟩
 have HR:Hid (RD w (W.alloc (.cells #[.int .i64 0,.int .i64 0] 125)) rb h S qs):=r.step (qb _ _)
 have HWW:Hid (w.heap.size<=W.heap.size):=r.bel.size
 have hb1:(W.alloc (.cells #[.int .i64 0,.int .i64 0] 125)).heap[W.heap.size]?=some (.cells #[.int .i64 0,.int .i64 0] 125 (0,0)):=heap_alloc_new _ _
 have HK1:Hid (Keep W (W.alloc (.cells #[.int .i64 0,.int .i64 0] 125))):=qp (qb _ _)
 obtain ⟨R,hR⟩:∃ R,zt (ki) f0 S=R:=⟨_,rfl⟩
 rw [hR]
 have HR0:Hid (zt (ki) f0 S=R):=hR
 clear r hrb hR
 go_enter Tryz.func137,Tryz.ntmps137
 go_upto_block 0 with fail
 generalize W.alloc (.cells #[.int .i64 0,.int .i64 0] 125)=W1 at HR hb1 HK1 ⊢
 obtain ⟨nb,hnb⟩:∃ nb,nb=W.heap.size:=⟨_,rfl⟩
 rw [<-hnb] at hb1 ⊢
 have HNB:Hid (W.heap.size<=nb):=Nat.le_of_eq hnb.symm
 have HBX:Hid (W1.heap[nb]?=some (.cells #[.int .i64 0,.int .i64 0] 125 (0,0))):=hb1
 clear hb1 hnb
 go_wp2_with fail
 go_loopg [5] f0 (fun kx s5 wr=>∃ f,f<=kx/\Hid (∃ S1 h1,S1.ws.length<=f/\RD w wr rb h1 S1 qs/\Keep W1 wr/\zt (ki) f S1=R/\S1.lv=S.lv))
 case atStart=>exact ⟨f0,Nat.le_refl _,(⟨S,h,hf0,HR.out,Keep.refl _,HR0.out,rfl⟩:∃ S1 h1,S1.ws.length<=f0/\RD w W1 rb h1 S1 qs/\Keep W1 W1/\zt (ki) f0 S1=R/\S1.lv=S.lv)⟩
 case round =>
  obtain ⟨f,hfk,J⟩:=hrel
  obtain ⟨S1,h1,hlen,hrd,hkp,hN,hlv⟩:=J.out
  clear J HR HR0
  obtain ⟨f',rfl⟩:∃ f',f=f'+1:=⟨f - 1,by have:=hrd.ok.ends.pos;omega⟩
  have HT:Hid (Calls Tryz.prog 143 #[.pointer (some ⟨rb,0,none⟩),.int .i64 1] wr fun e W'=>e=.returned (.tuple #[wv (takeW 1 S1),fv (jp 1 S1)])/\Went w wr rb (takeS 1 S1) qs W'):=jx 1 (by decide) w wr rb h1 S1 qs hrd
  have HJ:Hid (S1.ws.length<=f'+1/\RD w wr rb h1 S1 qs/\Keep W1 wr/\zt (ki) (f'+1) S1=R/\S1.lv=S.lv):=⟨hlen,hrd,hkp,hN,hlv⟩
  clear hlen hrd hkp hN hlv
  unfold wv fv at HT
  rcases ju 1 S1 with ⟨hk,hP,hW,hS,hF⟩ | ⟨hk,hP,hF,hS⟩
  ·rw [hW,hS,hF] at HT
   generalize hx:S1.hd=x at *
   obtain ⟨xk,xt,xa⟩:=x
   simp only at HT
   have HTK:Hid (kv 1 S1=.ok (⟨xk,xt,xa⟩,S1.next)/\S1.hd=⟨xk,xt,xa⟩):=⟨hP,hx⟩
   clear hk hP hW hS hF hx
   go_wp2_with fail
   refine HT.out.mono ?_
   rintro e W2 ⟨rfl,hwent⟩
   have HW2:Hid (Went w wr rb S1.next qs W2/\Keep W1 W2):=⟨hwent,HJ.out.2.2.1.trans (hwent.keep ⟨_,HJ.out.2.1.box⟩)⟩
   clear hwent HT
   obtain ⟨h2,hrd2⟩:=HW2.out.1.rd
   have hb3:Below W2.heap.size W2 ((W2.alloc (.cells #[.int .i64 xk,.string xt,.int .i64 xa] 149)).alloc (.cells #[.int .i64 0,.int .i64 0] 125)):=qd (qb _ _) (qb _ _)
   have HRD3:Hid (RD w ((W2.alloc (.cells #[.int .i64 xk,.string xt,.int .i64 xa] 149)).alloc (.cells #[.int .i64 0,.int .i64 0] 125)) rb h2 S1.next qs/\Keep W1 ((W2.alloc (.cells #[.int .i64 xk,.string xt,.int .i64 xa] 149)).alloc (.cells #[.int .i64 0,.int .i64 0] 125))):=⟨hrd2.step hb3,HW2.out.2.trans (qp hb3)⟩
   clear hrd2 hb3
   have HSAY:Hid (Calls Tryz.prog 138 #[.pointer (some ⟨rb,0,none⟩),.agg #[.int .i64 xk,.string xt,.int .i64 xa]] ((W2.alloc (.cells #[.int .i64 xk,.string xt,.int .i64 xa] 149)).alloc (.cells #[.int .i64 0,.int .i64 0] 125)) fun e W'=>Did w ((W2.alloc (.cells #[.int .i64 xk,.string xt,.int .i64 xa] 149)).alloc (.cells #[.int .i64 0,.int .i64 0] 125)) rb qs (ki ⟨xk,xt,xa⟩ S1.next) e W'):=qke ⟨xk,xt,xa⟩ w _ rb h2 S1.next qs HRD3.out.1
   go_wp2_with fail
   refine HSAY.out.mono ?_
   intro e W3 hD
   obtain ⟨h3,S3,rfl,hrd3,hkp3,hS3⟩:=hD
   have HD3:Hid (RD w W3 rb h3 S3 qs/\Keep W1 W3):=⟨hrd3,HRD3.out.2.trans hkp3⟩
   clear hrd3 hkp3 HSAY
   have hNx:zt (ki) (f'+1) S1=(match ki ⟨xk,xt,xa⟩ S1.next with | .error e=>.error e | .ok S2=>if S2.hd.k=1 then zt (ki) f' S2 else .ok S2):=by
    conv=>lhs;unfold zt
    rw [HTK.out.1]
    rfl
   cases hL:ki ⟨xk,xt,xa⟩ S1.next with
   | error g =>
    obtain ⟨g1,g2⟩:=g
    have hg:g1≠0:=qie (f:=(g1,g2)) hL
    have hg':(g1 != 0)=true:=by simpa using hg
    have HF:Hid (R=.error (g1,g2)):=by
     show _=_
     rw [<-HJ.out.2.2.2.1,hNx,hL]
    have t2:=qf (qb W3 (.cells #[.int .i64 g1,.int .i64 g2] 125)) (HD3.out.2.loc _ _ _ HBX.out (by decide) (by decide) (by decide) (by decide))
    obtain ⟨q3,q4,z3,z4⟩:=zg t2
    have HL:Hid (Loc (W3.alloc (.cells #[.int .i64 g1,.int .i64 g2] 125)) nb 125):=⟨_,t2⟩
    clear hNx hL hS3 hg t2
    unfold kf fv
    simp only
    go_wp2_with fail
    refine bodyPost_ret (v:=.agg #[.int .i64 g1,.int .i64 g2]) (by simp [results,Tryz.results137,go_sem, *]) rfl ?_
    exact zf (HD3.out.1.step (qb _ _)) ((HK1.out.trans HD3.out.2).trans (qp (qb _ _))) HL.out HNB.out HWW.out (by rw [HF.out];rfl) (fun S1 h=>by rw [HF.out] at h;cases h)
   | ok S4 =>
    have e3:S3=S4:=hS3 S4 hL
    subst e3
    have hbA:=qb W3 (.cells #[.int .i64 0,.int .i64 0] 125)
    have HWD:Hid (Calls Tryz.prog 123 #[.pointer (some ⟨rb,0,none⟩)] (W3.alloc (.cells #[.int .i64 0,.int .i64 0] 125)) fun e W'=>e=.returned (wv S3.hd)/\Below (W3.alloc (.cells #[.int .i64 0,.int .i64 0] 125)).heap.size (W3.alloc (.cells #[.int .i64 0,.int .i64 0] 125)) W'):=kp w _ rb h3 S3 qs (HD3.out.1.step hbA)
    have hok:=qpf HRD3.out.1.ok hL
    have HS3:Hid (S3.ws.length<=f'/\S3.lv=S.lv):=by
     obtain ⟨o1,o2,o3⟩:=hok
     have n1:=j4 HJ.out.2.1.ok
     refine ⟨?_,?_⟩
     ·rw [o2]
      have:=HJ.out.1
      omega
     ·rw [o3]
      exact HJ.out.2.2.2.2
    have HNX:Hid (R=if S3.hd.k=1 then zt (ki) f' S3 else .ok S3):=by
     show _=_
     rw [<-HJ.out.2.2.2.1,hNx,hL]
    clear hNx hL hS3 hok hbA
    unfold wv at HWD
    generalize hy:S3.hd=y at *
    obtain ⟨yk,yt,ya⟩:=y
    simp only at HWD HNX
    have hfk':=qf9 yk ya yt
    unfold kf fv
    simp only
    go_wp2_with fail
    refine HWD.out.mono ?_
    rintro e W4 ⟨rfl,hB⟩
    have HB4:Hid (Below W3.heap.size W3 W4):=qd (qb _ _) hB
    clear hB HWD hy
    by_cases hyk:yk=1
    ·have hq:(yk != 1)=false:=by simp [hyk]
     have HF:Hid (zt (ki) f' S3=R):=by
      show _=_
      have:=HNX.out
      rw [if_pos hyk] at this
      exact this.symm
     clear hyk HNX
     go_wp2_with fail
     go_roundg f'
     case measure=>omega
     case rel=>exact ⟨f',Nat.le_refl _,(⟨S3,h3,HS3.out.1,HD3.out.1.step HB4.out,HD3.out.2.trans (qp HB4.out),HF.out,HS3.out.2⟩:∃ S1 h1,S1.ws.length<=f'/\RD w W4 rb h1 S1 qs/\Keep W1 W4/\zt (ki) f' S1=R/\S1.lv=S.lv)⟩
    ·have hq:(yk != 1)=true:=by simp [hyk]
     have HF:Hid (R=.ok S3):=by
      show _=_
      have:=HNX.out
      rw [if_neg hyk] at this
      exact this
     clear hyk HNX
     have t2:=qf HB4.out (HD3.out.2.loc _ _ _ HBX.out (by decide) (by decide) (by decide) (by decide))
     obtain ⟨q3,q4,z3,z4⟩:=zg t2
     have HL:Hid (Loc W4 nb 125):=⟨_,t2⟩
     clear t2
     go_wp2_with fail
     refine bodyPost_ret (v:=.agg #[.int .i64 0,.int .i64 0]) (by simp [results,Tryz.results137,go_sem, *]) rfl ?_
     exact zf (HD3.out.1.step HB4.out) ((HK1.out.trans HD3.out.2).trans (qp HB4.out)) HL.out HNB.out HWW.out (by rw [HF.out];rfl) (fun S1 h=>by rw [HF.out] at h;cases h;rfl)
  ·have HN:Hid (R=.error (zj S1.hd)):=by
    show _=_
    rw [<-HJ.out.2.2.2.1]
    conv=>lhs;unfold zt
    rw [hP]
   rw [hF,hS] at HT
   unfold zj at HT HN
   generalize takeW 1 S1=y at HT
   generalize S1.hd.a=xa at *
   obtain ⟨yk,yt,ya⟩:=y
   simp only at HT
   clear hk hP hF hS
   go_wp2_with fail
   refine HT.out.mono ?_
   rintro e W2 ⟨rfl,hwent⟩
   have HW2:Hid (Went w wr rb S1 qs W2/\Keep W1 W2):=⟨hwent,HJ.out.2.2.1.trans (hwent.keep ⟨_,HJ.out.2.1.box⟩)⟩
   clear hwent HT
   have hb3:Below W2.heap.size W2 ((W2.alloc (.cells #[.int .i64 yk,.string yt,.int .i64 ya] 149)).alloc (.cells #[.int .i64 1,.int .i64 xa] 125)):=qd (qb _ _) (qb _ _)
   have t2:=qf hb3 (HW2.out.2.loc _ _ _ HBX.out (by decide) (by decide) (by decide) (by decide))
   obtain ⟨q3,q4,z3,z4⟩:=zg t2
   have HL:Hid (Loc ((W2.alloc (.cells #[.int .i64 yk,.string yt,.int .i64 ya] 149)).alloc (.cells #[.int .i64 1,.int .i64 xa] 125)) nb 125/\Below W2.heap.size W2 ((W2.alloc (.cells #[.int .i64 yk,.string yt,.int .i64 ya] 149)).alloc (.cells #[.int .i64 1,.int .i64 xa] 125))):=⟨⟨_,t2⟩,hb3⟩
   clear t2 hb3
   go_wp2_with fail
   refine bodyPost_ret (v:=.agg #[.int .i64 1,.int .i64 xa]) (by simp [results,Tryz.results137,go_sem, *]) rfl ?_
   obtain ⟨h2,hrd2⟩:=HW2.out.1.rd
   exact zf (hrd2.step HL.out.2) ((HK1.out.trans HW2.out.2).trans (qp HL.out.2)) HL.out.1 HNB.out HWW.out (by rw [HN.out];rfl) (fun S1 h=>by rw [HN.out] at h;cases h)
theorem qht (a:Int) (cr ca:Nat) (w W:World) (rb:Nat) (h:RHd) (S:St) (qs:List (Ru × Option Addr × Nat)) (r:RD w W rb h S qs) (f0:Nat) (hf0:S.ws.length<=f0) (hcr:W.heap[cr]?=some (.cells #[.pointer (some ⟨rb,0,none⟩)] 150 (0,0))) (hca:W.heap[ca]?=some (.cells #[.int .i64 a] 3 (0,0))) :
  Calls Tryz.prog 137 #[.pointer (some ⟨rb,0,none⟩),.func (.func 158) #[] #[.pointer (some ⟨cr,0,none⟩),.pointer (some ⟨ca,0,none⟩)]] W fun e W'=>Did w W rb qs (zt (levP (S.lv:Int) a) f0 S) e W':=by
 have hrb:Loc W rb 139:=⟨_,r.box⟩
 have HR:Hid (RD w (W.alloc (.cells #[.int .i64 0,.int .i64 0] 125)) rb h S qs):=r.step (qb _ _)
 have HWW:Hid (w.heap.size<=W.heap.size):=r.bel.size
 have hb1:(W.alloc (.cells #[.int .i64 0,.int .i64 0] 125)).heap[W.heap.size]?=some (.cells #[.int .i64 0,.int .i64 0] 125 (0,0)):=heap_alloc_new _ _
 have HK1:Hid (Keep W (W.alloc (.cells #[.int .i64 0,.int .i64 0] 125))):=qp (qb _ _)
 have HCP:Hid (∀ V:World,Keep W V->V.heap[cr]?=some (.cells #[.pointer (some ⟨rb,0,none⟩)] 150 (0,0))/\V.heap[ca]?=some (.cells #[.int .i64 a] 3 (0,0))):=fun V hV=>⟨hV.loc _ _ _ hcr (by decide) (by decide) (by decide) (by decide),hV.loc _ _ _ hca (by decide) (by decide) (by decide) (by decide)⟩
 clear hcr hca
 obtain ⟨R,hR⟩:∃ R,zt (levP (S.lv:Int) a) f0 S=R:=⟨_,rfl⟩
 rw [hR]
 have HR0:Hid (zt (levP (S.lv:Int) a) f0 S=R):=hR
 clear r hrb hR
 go_enter Tryz.func137,Tryz.ntmps137
 go_upto_block 0 with fail
 generalize W.alloc (.cells #[.int .i64 0,.int .i64 0] 125)=W1 at HR hb1 HK1 ⊢
 obtain ⟨nb,hnb⟩:∃ nb,nb=W.heap.size:=⟨_,rfl⟩
 rw [<-hnb] at hb1 ⊢
 have HNB:Hid (W.heap.size<=nb):=Nat.le_of_eq hnb.symm
 have HBX:Hid (W1.heap[nb]?=some (.cells #[.int .i64 0,.int .i64 0] 125 (0,0))):=hb1
 clear hb1 hnb
 go_wp2_with fail
 go_loopg [5] f0 (fun kx s5 wr=>∃ f,f<=kx/\Hid (∃ S1 h1,S1.ws.length<=f/\RD w wr rb h1 S1 qs/\Keep W1 wr/\zt (levP (S.lv:Int) a) f S1=R/\S1.lv=S.lv))
 case atStart=>exact ⟨f0,Nat.le_refl _,(⟨S,h,hf0,HR.out,Keep.refl _,HR0.out,rfl⟩:∃ S1 h1,S1.ws.length<=f0/\RD w W1 rb h1 S1 qs/\Keep W1 W1/\zt (levP (S.lv:Int) a) f0 S1=R/\S1.lv=S.lv)⟩
 case round =>
  obtain ⟨f,hfk,J⟩:=hrel
  obtain ⟨S1,h1,hlen,hrd,hkp,hN,hlv⟩:=J.out
  clear J HR HR0
  obtain ⟨f',rfl⟩:∃ f',f=f'+1:=⟨f - 1,by have:=hrd.ok.ends.pos;omega⟩
  have HT:Hid (Calls Tryz.prog 143 #[.pointer (some ⟨rb,0,none⟩),.int .i64 1] wr fun e W'=>e=.returned (.tuple #[wv (takeW 1 S1),fv (jp 1 S1)])/\Went w wr rb (takeS 1 S1) qs W'):=jx 1 (by decide) w wr rb h1 S1 qs hrd
  have HJ:Hid (S1.ws.length<=f'+1/\RD w wr rb h1 S1 qs/\Keep W1 wr/\zt (levP (S.lv:Int) a) (f'+1) S1=R/\S1.lv=S.lv):=⟨hlen,hrd,hkp,hN,hlv⟩
  clear hlen hrd hkp hN hlv
  unfold wv fv at HT
  rcases ju 1 S1 with ⟨hk,hP,hW,hS,hF⟩ | ⟨hk,hP,hF,hS⟩
  ·rw [hW,hS,hF] at HT
   generalize hx:S1.hd=x at *
   obtain ⟨xk,xt,xa⟩:=x
   simp only at HT
   have HTK:Hid (kv 1 S1=.ok (⟨xk,xt,xa⟩,S1.next)/\S1.hd=⟨xk,xt,xa⟩):=⟨hP,hx⟩
   clear hk hP hW hS hF hx
   go_wp2_with fail
   refine HT.out.mono ?_
   rintro e W2 ⟨rfl,hwent⟩
   have HW2:Hid (Went w wr rb S1.next qs W2/\Keep W1 W2):=⟨hwent,HJ.out.2.2.1.trans (hwent.keep ⟨_,HJ.out.2.1.box⟩)⟩
   clear hwent HT
   obtain ⟨h2,hrd2⟩:=HW2.out.1.rd
   have hb3:Below W2.heap.size W2 ((W2.alloc (.cells #[.int .i64 xk,.string xt,.int .i64 xa] 149)).alloc (.cells #[.int .i64 0,.int .i64 0] 125)):=qd (qb _ _) (qb _ _)
   have HRD3:Hid (RD w ((W2.alloc (.cells #[.int .i64 xk,.string xt,.int .i64 xa] 149)).alloc (.cells #[.int .i64 0,.int .i64 0] 125)) rb h2 S1.next qs/\Keep W1 ((W2.alloc (.cells #[.int .i64 xk,.string xt,.int .i64 xa] 149)).alloc (.cells #[.int .i64 0,.int .i64 0] 125))):=⟨hrd2.step hb3,HW2.out.2.trans (qp hb3)⟩
   clear hrd2 hb3
   have HSAY:Hid (Calls Tryz.prog 158 #[.agg #[.int .i64 xk,.string xt,.int .i64 xa],.pointer (some ⟨cr,0,none⟩),.pointer (some ⟨ca,0,none⟩)] ((W2.alloc (.cells #[.int .i64 xk,.string xt,.int .i64 xa] 149)).alloc (.cells #[.int .i64 0,.int .i64 0] 125)) fun e W'=>Did w ((W2.alloc (.cells #[.int .i64 xk,.string xt,.int .i64 xa] 149)).alloc (.cells #[.int .i64 0,.int .i64 0] 125)) rb qs (levP (S.lv:Int) a ⟨xk,xt,xa⟩ S1.next) e W'):=by
    have hc:=HCP.out _ (HK1.out.trans HRD3.out.2)
    have:=qkf a cr ca ⟨xk,xt,xa⟩ w _ rb h2 S1.next qs HRD3.out.1 hc.1 hc.2
    rw [show S1.next.lv=S.lv from HJ.out.2.2.2.2] at this
    exact this
   go_wp2_with fail
   refine HSAY.out.mono ?_
   intro e W3 hD
   obtain ⟨h3,S3,rfl,hrd3,hkp3,hS3⟩:=hD
   have HD3:Hid (RD w W3 rb h3 S3 qs/\Keep W1 W3):=⟨hrd3,HRD3.out.2.trans hkp3⟩
   clear hrd3 hkp3 HSAY
   have hNx:zt (levP (S.lv:Int) a) (f'+1) S1=(match levP (S.lv:Int) a ⟨xk,xt,xa⟩ S1.next with | .error e=>.error e | .ok S2=>if S2.hd.k=1 then zt (levP (S.lv:Int) a) f' S2 else .ok S2):=by
    conv=>lhs;unfold zt
    rw [HTK.out.1]
    rfl
   cases hL:levP (S.lv:Int) a ⟨xk,xt,xa⟩ S1.next with
   | error g =>
    obtain ⟨g1,g2⟩:=g
    have hg:g1≠0:=qkh (f:=(g1,g2)) hL
    have hg':(g1 != 0)=true:=by simpa using hg
    have HF:Hid (R=.error (g1,g2)):=by
     show _=_
     rw [<-HJ.out.2.2.2.1,hNx,hL]
    have t2:=qf (qb W3 (.cells #[.int .i64 g1,.int .i64 g2] 125)) (HD3.out.2.loc _ _ _ HBX.out (by decide) (by decide) (by decide) (by decide))
    obtain ⟨q3,q4,z3,z4⟩:=zg t2
    have HL:Hid (Loc (W3.alloc (.cells #[.int .i64 g1,.int .i64 g2] 125)) nb 125):=⟨_,t2⟩
    clear hNx hL hS3 hg t2
    unfold kf fv
    simp only
    go_wp2_with fail
    refine bodyPost_ret (v:=.agg #[.int .i64 g1,.int .i64 g2]) (by simp [results,Tryz.results137,go_sem, *]) rfl ?_
    exact zf (HD3.out.1.step (qb _ _)) ((HK1.out.trans HD3.out.2).trans (qp (qb _ _))) HL.out HNB.out HWW.out (by rw [HF.out];rfl) (fun S1 h=>by rw [HF.out] at h;cases h)
   | ok S4 =>
    have e3:S3=S4:=hS3 S4 hL
    subst e3
    have hbA:=qb W3 (.cells #[.int .i64 0,.int .i64 0] 125)
    have HWD:Hid (Calls Tryz.prog 123 #[.pointer (some ⟨rb,0,none⟩)] (W3.alloc (.cells #[.int .i64 0,.int .i64 0] 125)) fun e W'=>e=.returned (wv S3.hd)/\Below (W3.alloc (.cells #[.int .i64 0,.int .i64 0] 125)).heap.size (W3.alloc (.cells #[.int .i64 0,.int .i64 0] 125)) W'):=kp w _ rb h3 S3 qs (HD3.out.1.step hbA)
    have hok:=qqz HRD3.out.1.ok hL
    have HS3:Hid (S3.ws.length<=f'/\S3.lv=S.lv):=by
     obtain ⟨o1,o2,o3⟩:=hok
     have n1:=j4 HJ.out.2.1.ok
     refine ⟨?_,?_⟩
     ·rw [o2]
      have:=HJ.out.1
      omega
     ·rw [o3]
      exact HJ.out.2.2.2.2
    have HNX:Hid (R=if S3.hd.k=1 then zt (levP (S.lv:Int) a) f' S3 else .ok S3):=by
     show _=_
     rw [<-HJ.out.2.2.2.1,hNx,hL]
    clear hNx hL hS3 hok hbA
    unfold wv at HWD
    generalize hy:S3.hd=y at *
    obtain ⟨yk,yt,ya⟩:=y
    simp only at HWD HNX
    have hfk':=qf9 yk ya yt
    unfold kf fv
    simp only
    go_wp2_with fail
    refine HWD.out.mono ?_
    rintro e W4 ⟨rfl,hB⟩
    have HB4:Hid (Below W3.heap.size W3 W4):=qd (qb _ _) hB
    clear hB HWD hy
    by_cases hyk:yk=1
    ·have hq:(yk != 1)=false:=by simp [hyk]
     have HF:Hid (zt (levP (S.lv:Int) a) f' S3=R):=by
      show _=_
      have:=HNX.out
      rw [if_pos hyk] at this
      exact this.symm
     clear hyk HNX
     go_wp2_with fail
     go_roundg f'
     case measure=>omega
     case rel=>exact ⟨f',Nat.le_refl _,(⟨S3,h3,HS3.out.1,HD3.out.1.step HB4.out,HD3.out.2.trans (qp HB4.out),HF.out,HS3.out.2⟩:∃ S1 h1,S1.ws.length<=f'/\RD w W4 rb h1 S1 qs/\Keep W1 W4/\zt (levP (S.lv:Int) a) f' S1=R/\S1.lv=S.lv)⟩
    ·have hq:(yk != 1)=true:=by simp [hyk]
     have HF:Hid (R=.ok S3):=by
      show _=_
      have:=HNX.out
      rw [if_neg hyk] at this
      exact this
     clear hyk HNX
     have t2:=qf HB4.out (HD3.out.2.loc _ _ _ HBX.out (by decide) (by decide) (by decide) (by decide))
     obtain ⟨q3,q4,z3,z4⟩:=zg t2
     have HL:Hid (Loc W4 nb 125):=⟨_,t2⟩
     clear t2
     go_wp2_with fail
     refine bodyPost_ret (v:=.agg #[.int .i64 0,.int .i64 0]) (by simp [results,Tryz.results137,go_sem, *]) rfl ?_
     exact zf (HD3.out.1.step HB4.out) ((HK1.out.trans HD3.out.2).trans (qp HB4.out)) HL.out HNB.out HWW.out (by rw [HF.out];rfl) (fun S1 h=>by rw [HF.out] at h;cases h;rfl)
  ·have HN:Hid (R=.error (zj S1.hd)):=by
    show _=_
    rw [<-HJ.out.2.2.2.1]
    conv=>lhs;unfold zt
    rw [hP]
   rw [hF,hS] at HT
   unfold zj at HT HN
   generalize takeW 1 S1=y at HT
   generalize S1.hd.a=xa at *
   obtain ⟨yk,yt,ya⟩:=y
   simp only at HT
   clear hk hP hF hS
   go_wp2_with fail
   refine HT.out.mono ?_
   rintro e W2 ⟨rfl,hwent⟩
   have HW2:Hid (Went w wr rb S1 qs W2/\Keep W1 W2):=⟨hwent,HJ.out.2.2.1.trans (hwent.keep ⟨_,HJ.out.2.1.box⟩)⟩
   clear hwent HT
   have hb3:Below W2.heap.size W2 ((W2.alloc (.cells #[.int .i64 yk,.string yt,.int .i64 ya] 149)).alloc (.cells #[.int .i64 1,.int .i64 xa] 125)):=qd (qb _ _) (qb _ _)
   have t2:=qf hb3 (HW2.out.2.loc _ _ _ HBX.out (by decide) (by decide) (by decide) (by decide))
   obtain ⟨q3,q4,z3,z4⟩:=zg t2
   have HL:Hid (Loc ((W2.alloc (.cells #[.int .i64 yk,.string yt,.int .i64 ya] 149)).alloc (.cells #[.int .i64 1,.int .i64 xa] 125)) nb 125/\Below W2.heap.size W2 ((W2.alloc (.cells #[.int .i64 yk,.string yt,.int .i64 ya] 149)).alloc (.cells #[.int .i64 1,.int .i64 xa] 125))):=⟨⟨_,t2⟩,hb3⟩
   clear t2 hb3
   go_wp2_with fail
   refine bodyPost_ret (v:=.agg #[.int .i64 1,.int .i64 xa]) (by simp [results,Tryz.results137,go_sem, *]) rfl ?_
   obtain ⟨h2,hrd2⟩:=HW2.out.1.rd
   exact zf (hrd2.step HL.out.2) ((HK1.out.trans HW2.out.2).trans (qp HL.out.2)) HL.out.1 HNB.out HWW.out (by rw [HN.out];rfl) (fun S1 h=>by rw [HN.out] at h;cases h)
end Go.Proofs.YtngclmglmhiljaaGreatDoor
