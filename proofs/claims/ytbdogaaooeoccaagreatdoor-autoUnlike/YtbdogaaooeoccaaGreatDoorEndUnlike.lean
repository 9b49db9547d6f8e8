/-
  AutoUnlike: whatever the grammar, no two states have one kernel, each but the first is led to, and what stands in a state led to stands behind that symbol: the call returns true and leaves the grammar as it was; the row sets no condition but what the package-level tables hold.
-/
import Derived.ChangeSlices
import Derived.Deep.Matrix
import Derived.Test.YtbdogaaooeoccaaGreatDoorCards
import Derived.Test.YtbdogaaooeoccaaGreatDoorTie
import Derived.OpenShut
import Derived.ShutString
import Derived.ChangeOld
import Derived.Below
import Derived.SevenTiedAt
import Derived.Test.YtbdogaaooeoccaaGreatDoorOthUnlike
set_option maxHeartbeats 16000000
set_option maxRecDepth 100000
namespace Go.Proofs.YtbdogaaooeoccaaGreatDoor
open Go.RowKit
def uao (S:Sp) (x:It) (L:List It):List It:=match ahd S x with
 | none=>L
 | some z=>(rlo S z).foldl (fun L k=>if k=0 then L else uae L (k,0)) L
def clN (S:Sp) (K:List It):Nat->List It
 | 0=>K
 | f+1=>(clN S K f).foldl (fun A x=>uao S x A) (clN S K f)
def uac (S:Sp) (L:List It):Bool:=L.all fun x=>match ahd S x with
 | none=>true
 | some z=>(rlo S z).all fun k=>k == 0 || L.contains (k,0)
def uaf:List It->Bool
 | []=>true
 | x :: l=>(match l with | []=>true | y :: _=>decide (ltI x y)) && uaf l
theorem uak:∀{l:List It},uaf l=true->Sor l
 | [],_=>List.Pairwise.nil
 | [x],_=>List.pairwise_singleton _ _
 | x :: y :: l,h=>by
  unfold uaf at h;rw[Bool.and_eq_true,decide_eq_true_eq]at h;have a:=uak h.2;refine List.pairwise_cons.2 ⟨fun z b=>?_,a⟩
  rcases List.mem_cons.1 b with rfl | e
  ·exact h.1
  ·exact qpu h.1 ((List.pairwise_cons.1 a).1 z e)
def Gw (S:Sp) (K A B:List It):Prop:=Sor A->(∀x∈A,InC S K x)->Sor B/\(∀x∈B,InC S K x)/\∀x∈A,x∈B
theorem Gw.refl(S:Sp)(K A:List It):Gw S K A A:=fun a b=>⟨a,b,fun _ h=>h⟩
theorem Gw.trans{S:Sp}{K A B C:List It}(h:Gw S K A B)(k:Gw S K B C):Gw S K A C:=fun g i=>by
 obtain⟨a,b,c⟩:=h g i;obtain⟨d,e,f⟩:=k a b;exact⟨d,e,fun x j=>f x (c x j)⟩
theorem ua9{S:Sp}{K:List It}{x:It}(q:InC S K x)(L:List It):Gw S K L (uao S x L):=by
 unfold uao
 cases m:ahd S x with
 | none=>exact Gw.refl _ _ _
 | some z =>
  have:∀(l:List Nat) (L:List It),(∀k∈l,∃r,S.rs[k]?=some r/\r.l=(z:Int))->Gw S K L (l.foldl (fun L k=>if k=0 then L else uae L (k,0)) L):=fun l=>by
   induction l with
   | nil=>intro L _;exact Gw.refl _ _ _
   | cons k l ih =>
    intro L g;rw[List.foldl_cons];refine Gw.trans ?_ (ih _ (fun j n=>g j (List.mem_cons_of_mem _ n)))
    by_cases f:k=0
    ·rw[if_pos f];exact Gw.refl _ _ _
    ·rw[if_neg f];intro h i;obtain⟨a,b⟩:=ua1 h (k,0);obtain⟨r,p,c⟩:=g k List.mem_cons_self;refine⟨a,fun y d=>?_,fun y d=>(b y).2 (.inr d)⟩
     rcases (b y).1 d with rfl | e
     ·exact InC.step x k r z q m (by omega) p c
     ·exact i y e
  exact this _ L (fun k o=>qe4.1 o)
theorem uaw(S:Sp)(K:List It)(i:Sor K):∀f,Sor (clN S K f)/\(∀x∈clN S K f,InC S K x)/\∀x∈K,x∈clN S K f
 | 0=>⟨i,fun _ h=>InC.mem h,fun _ h=>h⟩
 | f+1=>by
  obtain⟨a,b,c⟩:=uaw S K i f
  have:∀(l A:List It),(∀x∈l,InC S K x)->Gw S K A (l.foldl (fun A x=>uao S x A) A):=fun l=>by
   induction l with
   | nil=>intro A _;exact Gw.refl _ _ _
   | cons y l ih =>
    intro A k;rw[List.foldl_cons];exact Gw.trans (ua9 (k y List.mem_cons_self) A) (ih _ (fun j m=>k j (List.mem_cons_of_mem _ m)))
  obtain⟨d,e,g⟩:=this (clN S K f) (clN S K f) b a b;exact⟨d,e,fun x n=>g x (c x n)⟩
theorem uax{S:Sp}{K:List It}(j:Sor K){f:Nat}(h:uac S (clN S K f)=true):vq S K (clN S K f):=by
 obtain⟨a,b,c⟩:=uaw S K j f;refine qrv a b c (fun y i r z n k o m l=>?_);unfold uac at h;have d:=List.all_eq_true.1 h y n;rw[k]at d;have g:=List.all_eq_true.1 d i (qe4.2 ⟨r,m,l⟩);rw[Bool.or_eq_true,beq_iff_eq]at g
 rcases g with e | e
 ·omega
 ·exact List.contains_iff_mem.1 e
def auC (S:Sp) (f n:Nat):Nat->Option (List (List It) × List Int)
 | 0=>some ([[(0,0)]],[])
 | t+1=>match auC S f n t with
  | none=>none
  | some (ks,g) =>
   if n * ks.length<=t then some (ks,g) else
    if (uac S (clN S ((ks[t / n]?).getD []) f) && uaf ((ks[t / n]?).getD []))=true then
     let k:=nxt S (clN S ((ks[t / n]?).getD []) f) (t % n)
     if k=[] then some (ks,g++[-1]) else
      match fndK ks k with
      | some j=>some (ks,g++[(j:Int)])
      | none=>if 120<=ks.length then none else some (ks++[k],g++[(ks.length:Int)])
    else none
theorem uay{S:Sp}{C:List It->List It}(d:CloF S C)(f n:Nat):∀(t:Nat) (r:List (List It) × List Int),auC S f n t=some r->au S C n t=some r
 | 0,r,h=>h
 | t+1,r,h=>by
  unfold auC at h;unfold au
  cases c:auC S f n t with
  | none=>rw[c]at h;cases h
  | some p =>
   obtain⟨a,g⟩:=p;rw[c]at h;rw[uay d f n t _ c];simp only at h ⊢
   by_cases hd:n * a.length<=t
   ·rw[if_pos hd]at h ⊢;exact h
   ·rw[if_neg hd]at h ⊢
    by_cases b:(uac S (clN S ((a[t / n]?).getD []) f) && uaf ((a[t / n]?).getD []))=true
    ·rw[if_pos b]at h;rw[Bool.and_eq_true]at b;rw[d _ _ (uax (uak b.2) b.1)]
     by_cases k:nxt S (clN S ((a[t / n]?).getD []) f) (t % n)=[]
     ·rw[if_pos k]at h ⊢;exact h
     ·rw[if_neg k]at h ⊢
      cases i:fndK a (nxt S (clN S ((a[t / n]?).getD []) f) (t % n)) with
      | some j=>rw[i]at h;exact h
      | none =>
       rw[i]at h;simp only at h ⊢
       by_cases l:120<=a.length
       ·rw[if_pos l]at h;cases h
       ·rw[if_neg l]at h ⊢;exact h
    ·rw[if_neg b]at h;cases h
theorem uaz{S:Sp}{K L a:List It}(h:vq S K L)(k:vq S K a):L=a:=qm3 h.1 k.1 (fun x=>(h.2 x).trans (k.2 x).symm)
def ksS:List (List It):=[[(0,0)],[(3,1)],[(0,1),(1,1),(2,1)],[(1,2)],[(2,2)],[(1,1),(1,3),(2,1)],[(1,1),(2,1),(2,3)]]
def gS:List Int:=[1,-1,-1,-1,2,-1,-1,-1,-1,-1,-1,3,4,-1,-1,1,-1,-1,-1,5,1,-1,-1,-1,6,-1,3,4,-1,-1,-1,3,4,-1,-1]
theorem uag:uad (spG q9) 5 ksS gS:=fun C a=>⟨35,uay a 3 5 35 _ (by rw[x8];kernel_rfl),by decide⟩
theorem ua2:vq (spG q9) [(0,0)] [(0,0),(1,0),(2,0),(3,0)]:=by
 have h:=uax (S:=spG q9) (K:=[(0,0)]) (List.pairwise_singleton _ _) (f:=3) (by rw[x8];kernel_rfl)
 have e:clN (spG q9) [(0,0)] 3=[(0,0),(1,0),(2,0),(3,0)]:=by rw[x8];kernel_rfl
 rw[e]at h;exact h
theorem uaa:gAt 5 7 gS 0 0=1/\gAt 5 7 gS 0 4=2/\gAt 5 7 gS 0 1=-1/\gAt 5 7 gS 2 1=3:=⟨by kernel_rfl,by kernel_rfl,by kernel_rfl,by kernel_rfl⟩
theorem uba{w j:World}{e:Ending}(h:BO w (spG q9) 5 e j):∃b f i a c,e=.returned (.tuple #[.pointer (some ⟨b,0,none⟩),.int .i64 0])/\AM w.heap.size j b f i a c/\OA (spG q9) 5 a c gS (a.length * 5+0)/\Below w.heap.size w j/\a.length=7/\(∃s,a[0]?=some s/\s.K.length=1/\s.L.length=4)/\∃s,a[2]?=some s:=by
 rcases h with ⟨-,h,-⟩ | ⟨b,f,i,a,c,g,h1,h2,h3,h4⟩
 ·exact(ua8 uag h).elim
 ·obtain⟨k,o⟩:=ua7 h3.fin uag;subst o
  have q:a.length=7:=by
   have:=congrArg List.length k;rw[List.length_map]at this;exact this
  refine⟨b,f,i,a,c,h1,h2,h3,h4,q,?_,⟨_,List.getElem?_eq_getElem (by omega)⟩⟩
  obtain⟨s,d⟩:∃s,a[0]?=some s:=⟨_,List.getElem?_eq_getElem (by omega)⟩
  have n:s.K=[(0,0)]:=by
   have:=congrArg (fun l=>l[0]?) k;simp only[List.getElem?_map,d]at this;exact Option.some.inj this
  have m:=(h3.cs s (List.mem_of_getElem? d)).1;rw[n]at m;have p:=uaz m ua2;exact⟨s,d,by rw[n];rfl,by rw[p];rfl⟩
theorem uah(w:World)(a:Pow w):Calls Tryz.prog 19 #[] w fun e d=>e=.returned (.bool true)/\Below w.heap.size w d:=by
 have b:=hid (qt9 w a);clear a;go_enter Tryz.func19,Tryz.ntmps19;go_wp2_with fail;refine b.out.mono ?_;rintro e V ⟨rfl,c⟩;go_wp2_with fail;go_ret;exact⟨rfl,c⟩
theorem xp(w:World)(hp:Pow w):Calls Tryz.prog 8 #[] w fun e a=>e=.returned (.bool true)/\Below w.heap.size w a:=by
 have HP:=hid hp;clear hp
 have K:Hid (∀V:World,Calls Tryz.prog 18 #[] V fun e a=>∃C D b d,e=.returned (.agg #[.slice C 3 D,.string ⟨#[]⟩,.int .i64 0,.slice b 3 d])/\(∃qs,OwnG a V.heap.size ⟨C,D,b,d⟩ q9 qs)/\Below V.heap.size V a):=fun V=>(qdi V).mono fun e a ⟨⟨C,D,b,d⟩,qs,h1,h2,h3⟩=>⟨C,D,b,d,h1,⟨qs,h2⟩,h3⟩
 go_enter Tryz.func8,Tryz.ntmps8;go_wp2_with fail;refine(K.out _).mono ?_;rintro e V1 ⟨C,D,a3,a4,rfl,a0,L⟩
 have HC:Hid (Calls Tryz.prog 9 #[.agg #[.slice C 3 D,.string ⟨#[]⟩,.int .i64 0,.slice a3 3 a4]] V1 fun e a=>∃m n k l h j b d,e=.returned (.tuple #[.agg #[.int .i64 3,.int .i64 1,.int .i64 4,.int .i64 0,.slice m 5 n,.slice k 3 l,.slice h 3 j,.slice b 4 d],.int .i64 0])/\IsSp a ⟨m,n,k,l,h,j,b,d⟩ (spG q9)/\Below V1.heap.size V1 a):=by
  obtain⟨qs,ho⟩:=a0;exact qjj V1 ⟨C,D,a3,a4⟩ (ho.isG qap)
 have E:=hid L;clear a0 L K;go_wp2_with fail;refine HC.out.mono ?_;rintro e A ⟨m,n,k,l,h,j,b,d,rfl,hs,M⟩;have hv:Below A.heap.size A (A.alloc (.cells #[.int .i64 3,.int .i64 1,.int .i64 4,.int .i64 0,.slice m 5 n,.slice k 3 l,.slice h 3 j,.slice b 4 d] 31)):=qb _ _;have hx:(A.alloc (.cells #[.int .i64 3,.int .i64 1,.int .i64 4,.int .i64 0,.slice m 5 n,.slice k 3 l,.slice h 3 j,.slice b 4 d] 31)).heap[A.heap.size]?=some (.cells #[.int .i64 3,.int .i64 1,.int .i64 4,.int .i64 0,.slice m 5 n,.slice k 3 l,.slice h 3 j,.slice b 4 d] 31 (0,0)):=heap_alloc_new _ _;have f:=hid3 (hs.below hv) hx (qd (qd E.out M) hv);clear hs hv hx M HC E
 go_upto_region 2 with fail
 generalize A.alloc (.cells #[.int .i64 3,.int .i64 1,.int .i64 4,.int .i64 0,.slice m 5 n,.slice k 3 l,.slice h 3 j,.slice b 4 d] 31)=o at f ⊢;generalize A.heap.size=v at f ⊢
 have k0:o.cell? ⟨v,0,none⟩=some (.int .i64 3):=by rw[qe f.out.2.1];rfl
 have k1:o.cell? ⟨v,1,none⟩=some (.int .i64 1):=by rw[qe f.out.2.1];rfl
 have k2:o.cell? ⟨v,2,none⟩=some (.int .i64 4):=by rw[qe f.out.2.1];rfl
 have k3:o.cell? ⟨v,3,none⟩=some (.int .i64 0):=by rw[qe f.out.2.1];rfl
 have k4:o.cell? ⟨v,4,none⟩=some (.slice m 5 n):=by rw[qe f.out.2.1];rfl
 have k5:o.cell? ⟨v,5,none⟩=some (.slice k 3 l):=by rw[qe f.out.2.1];rfl
 have k6:o.cell? ⟨v,6,none⟩=some (.slice h 3 j):=by rw[qe f.out.2.1];rfl
 have k7:o.cell? ⟨v,7,none⟩=some (.slice b 4 d):=by rw[qe f.out.2.1];rfl
 have HN:Hid (Calls Tryz.prog 16 #[.agg #[.int .i64 3,.int .i64 1,.int .i64 4,.int .i64 0,.slice m 5 n,.slice k 3 l,.slice h 3 j,.slice b 4 d]] o fun e a=>BO o (spG q9) 5 e a):=by
  have Z:=quy qhw;rw[qt8]at Z;have hc:=qul o ⟨m,n,k,l,h,j,b,d⟩ (spG q9) 5 Z f.out.1
  have e1:sv ⟨m,n,k,l,h,j,b,d⟩ (spG q9)=.agg #[.int .i64 3,.int .i64 1,.int .i64 4,.int .i64 0,.slice m 5 n,.slice k 3 l,.slice h 3 j,.slice b 4 d]:=by
   unfold sv sC;rw[x8];rfl
  rw[e1]at hc;exact hc
 go_wp2_with fail;refine HN.out.mono ?_;intro e V4 U;obtain⟨ab,sa,sc,ss,ld,rfl,O,a1,N,B,⟨s0,p,X,Y⟩,⟨s2,a2⟩⟩:=uba U;clear k0 k1 k2 k3 k4 k5 k6 k7 HN U;have H4:=hid (qd f.out.2.2 N)
 have y:Hid (∀V,Below V4.heap.size V4 V->(Calls Tryz.prog 12 #[.pointer (some ⟨ab,0,none⟩)] V fun e a=>e=.returned (.int .i64 7)/\a=V)/\(Calls Tryz.prog 14 #[.pointer (some ⟨ab,0,none⟩),.int .i64 0] V fun e a=>∃g c,e=.returned (.slice (some ⟨g,0,none⟩) 4 c)/\Below V.heap.size V a)/\(Calls Tryz.prog 13 #[.pointer (some ⟨ab,0,none⟩),.int .i64 0] V fun e a=>∃g c,e=.returned (.slice (some ⟨g,0,none⟩) 1 c)/\Below V.heap.size V a)/\∀(i:Nat) (x r:Int),(i=0\/i=2)->(0<=x/\x<=4)->gAt 5 7 gS i x=r->Calls Tryz.prog 15 #[.pointer (some ⟨ab,0,none⟩),.int .i64 (i:Int),.int .i64 x] V fun e a=>e=.returned (.int .i64 r)/\Below V.heap.size V a):=fun V hV=>by
  have hA:=O.below hV;refine⟨?_,?_,?_,fun i x r hi hx hr=>?_⟩
  ·have:=qp4 hA;rw[B]at this;exact this
  ·refine(qu4 hA p (by omega) (by omega)).mono ?_;rintro e a ⟨g,c,rfl,-,hb⟩;rw[Y];exact⟨g,c,rfl,hb⟩
  ·refine(qu2 hA p (by omega) (by omega)).mono ?_;rintro e a ⟨g,c,rfl,-,hb⟩;rw[X];exact⟨g,c,rfl,hb⟩
  ·obtain⟨s,hs⟩:∃s,ss[i]?=some s:=by
    rcases hi with rfl | rfl
    ·exact⟨_,p⟩
    ·exact⟨_,a2⟩
   have:=qu8 hA a1 hs x (by omega);rw[B,hr]at this;exact this
 have a5:=hid (HP.out.below H4.out);clear O a1 N B p X Y a2 f;go_wp2_with fail;refine(uah V4 a5.out).mono ?_;rintro e V5 ⟨rfl,P⟩;have z:=hid P;clear P;go_wp2_with fail;refine((y.out V5 z.out).1).mono ?_;rintro e a8 ⟨rfl,rfl⟩;go_wp2_with fail;refine((y.out _ z.out).2.1).mono ?_;rintro e V6 ⟨g6,c6,rfl,Q⟩;have G:=hid (qd z.out Q);clear Q;go_wp2_with fail;refine((y.out _ G.out).2.2.1).mono ?_;rintro e V7 ⟨g7,c7,rfl,R⟩;have H:=hid (qd G.out R);clear R;go_wp2_with fail;refine((y.out _ H.out).2.2.2 0 0 1 (.inl rfl) (by decide) uaa.1).mono ?_;rintro e V8 ⟨rfl,S⟩;have I:=hid (qd H.out S);clear S;go_wp2_with fail;refine((y.out _ I.out).2.2.2 0 4 2 (.inl rfl) (by decide) uaa.2.1).mono ?_;rintro e V9 ⟨rfl,T⟩;have J:=hid (qd I.out T);clear T;go_wp2_with fail;refine((y.out _ J.out).2.2.2 0 1 (-1) (.inl rfl) (by decide) uaa.2.2.1).mono ?_;rintro e a6 ⟨rfl,t⟩;have q:=hid (qd J.out t);clear t;go_wp2_with fail;refine((y.out _ q.out).2.2.2 2 1 3 (.inr rfl) (by decide) uaa.2.2.2).mono ?_;rintro e a7 ⟨rfl,u⟩;have F:=hid (qd q.out u);clear u;go_wp2_with fail;go_ret;exact⟨rfl,H4.out.trans (F.out.mono H4.out.size)⟩
theorem ua4{G:Gm}{k:Int}(b:OfR G k)(a:k=0):∃n,NSp (spK G k) n:=by
 unfold spK;rw[if_pos a];subst a;exact⟨_,quy b⟩
theorem ua5{S:Sp}{n:Nat}(h:NSp S n):S.tk<=100/\S.nt<=200/\n=S.tk+1+S.nt:=⟨h.wf.tk,h.wf.nt,h.nn⟩
def nv (l:List Int):Int:=l.foldl (fun a x=>if x=a then a+1 else a) 1
theorem xr(l:List Int)(x:Int):nv (l++[x])=if x=nv l then nv l+1 else nv l:=by
 unfold nv;rw[List.foldl_append];rfl
theorem ua6{S:Sp}{C:List It->List It}{n:Nat}:∀(t:Nat) (a:List (List It)) (g:List Int),au S C n t=some (a,g)->nv g=(a.length:Int)/\∀(u:Nat) (x:Int),g[u]?=some x->x<=nv (g.take u)
 | 0,a,g,h=>by
  unfold au at h
  cases h
  exact⟨rfl,fun u x v=>by cases v⟩
 | t+1,ks',g',h=>by
  have A:=qld S C n (t+1) ks' g' h;unfold au at h
  cases i:au S C n t with
  | none=>rw[i]at h;cases h
  | some p =>
   obtain⟨a,g⟩:=p;obtain⟨c,m⟩:=ua6 t a g i;have s:=(qld S C n t a g i).l1;rw[i]at h;simp only at h
   have step:∀(x:Int) (l:Nat),(nv (g++[x])=(l:Int))->x<=nv g->nv (g++[x])=(l:Int)/\∀(u:Nat) (y:Int),(g++[x])[u]?=some y->y<=nv ((g++[x]).take u):=fun x l o q=>by
    refine⟨o,fun u y b=>?_⟩
    rcases Nat.lt_or_ge u g.length with hu | hu
    ·rw[List.getElem?_append_left hu]at b;rw[List.take_append_of_le_length (by omega)];exact m u y b
    ·rw[List.getElem?_append_right hu]at b;have r:=(List.getElem?_eq_some_iff.1 b).1;simp at r
     have e:u=g.length:=by omega
     subst e;rw[Nat.sub_self]at b;simp at b;subst b;rw[List.take_left];exact q
   by_cases hd:n * a.length<=t
   ·rw[if_pos hd]at h
    cases h
    exact⟨c,m⟩
   ·rw[if_neg hd]at h
    by_cases d:nxt S (C ((a[t / n]?).getD [])) (t % n)=[]
    ·rw[if_pos d]at h
     cases h
     exact step (-1) _ (by rw[xr,c,if_neg (by omega)]) (by rw[c];omega)
    ·rw[if_neg d]at h
     cases f:fndK a (nxt S (C ((a[t / n]?).getD [])) (t % n)) with
     | some j =>
      rw[f]at h;simp only at h
      have z:j<a.length:=by
       unfold fndK at f;exact(List.findIdx?_eq_some_iff_getElem.1 f).1
      cases h
      exact step (j:Int) _ (by rw[xr,c,if_neg (by omega)]) (by rw[c];omega)
     | none =>
      rw[f]at h;simp only at h
      by_cases k:120<=a.length
      ·rw[if_pos k]at h;cases h
      ·rw[if_neg k]at h
       cases h
       exact step (a.length:Int) _ (by rw[xr,c,if_pos rfl,List.length_append];simp) (by rw[c];omega)
theorem ubd{S:Sp}{n:Nat}{a:List Sta}{c:Lds}{g:List Int}{t:Nat}(h:OA S n a c g t):nv g=(a.length:Int)/\∀(u:Nat) (x:Int),g[u]?=some x->x<=nv (g.take u):=by
 obtain⟨C,b⟩:=qua S;have:=ua6 t _ g (h.ha C b);rw[List.length_map]at this;exact this
theorem ubb{g:List Int}{u:Nat}{x:Int}(h:g[u]?=some x):nv (g.take (u+1))=if x=nv (g.take u) then nv (g.take u)+1 else nv (g.take u):=by
 obtain⟨a,rfl⟩:=List.getElem?_eq_some_iff.1 h;rw[List.take_succ_eq_append_getElem a,xr]
theorem ua3(l:List Int):1<=nv l/\nv l<=(l.length:Int)+1:=by
 have:∀(l:List Int) (a:Int),a<=l.foldl (fun a x=>if x=a then a+1 else a) a/\l.foldl (fun a x=>if x=a then a+1 else a) a<=a+l.length:=fun l=>by
  induction l with
  | nil=>intro a;simp
  | cons y l ih =>
   intro a;rw[List.foldl_cons,List.length_cons];have:=ih (if y=a then a+1 else a)
   split at this <;> (constructor <;> (split <;> omega))
 have:=this l 1;unfold nv;omega
end Go.Proofs.YtbdogaaooeoccaaGreatDoor
namespace Go.Proofs.YtbdogaaooeoccaaGreatDoor.Order
open Go.RowKit
theorem walk(h:Hd)(G:Gm)(w:World)(hp:Pow w)(hG:RawG w h G):Calls Tryz.prog 7 #[gv h G] w fun e f=>e=.returned (.bool true)/\Below w.heap.size w f:=by
 obtain⟨N,O,L,M⟩:=h;obtain⟨k,hk⟩:=uau (cutG G);have HK:=hid hk;have m:Below w.heap.size w (w.alloc (.cells #[.slice N G.ts.length O,.string G.s,.int .i64 G.e,.slice L G.rs.length M] 25)):=qb _ _;have K:(w.alloc (.cells #[.slice N G.ts.length O,.string G.s,.int .i64 G.e,.slice L G.rs.length M] 25)).heap[w.heap.size]?=some (.cells #[.slice N G.ts.length O,.string G.s,.int .i64 G.e,.slice L G.rs.length M] 25 (0,0)):=heap_alloc_new _ _;have I:=hid2 (hG.below m) (hp.below m);clear hG hp hk;unfold gv;simp only
 obtain⟨tn,U⟩:∃tn,Hid (G.ts.length=tn):=⟨_,rfl⟩
 obtain⟨rn,T⟩:∃rn,Hid (G.rs.length=rn):=⟨_,rfl⟩
 rw[U.out]at m K I ⊢;rw[T.out]at m K I ⊢;go_enter Tryz.func7,Tryz.ntmps7
 go_upto_region 1 with fail
 generalize w.alloc (.cells #[.slice N tn O,.string G.s,.int .i64 G.e,.slice L rn M] 25)=W1 at m K I ⊢
 obtain⟨nb,b3⟩:∃nb,Hid (nb=w.heap.size):=⟨_,rfl⟩
 rw[<-b3.out]at K ⊢;have H1:=hid2 m K;clear m K;go_wp2_with fail;refine(xp W1 I.out.2).mono ?_;rintro e X ⟨rfl,C⟩;have t:=hid3 (I.out.1.below C) (qd H1.out.1 C) (qf C H1.out.2);clear C I H1;obtain⟨p0,p1,p2,p3⟩:=box4 t.out.2.2
 have v:Hid (Calls Tryz.prog 10 #[.agg #[.slice N tn O,.string G.s,.int .i64 G.e,.slice L rn M]] X fun e f=>∃h' qs,e=.returned (gv h' (cutG G))/\OwnG f X.heap.size h' (cutG G) qs/\Below X.heap.size X f):=by
  have:=quu G ⟨N,O,L,M⟩ X t.out.1;unfold gv at this;simp only at this;rw[U.out,T.out]at this;exact this
 go_wp2_with fail;refine v.out.mono ?_;rintro e V2 ⟨⟨a6,a7,a4,a5⟩,qs,rfl,ho,C⟩;have H2:=hid2 (ho.isG (uab G)) (qd t.out.2.1 C);clear ho C v t p0 p1 p2 p3;have r:=hid (qtb (cutG G) ⟨a6,a7,a4,a5⟩ V2 k H2.out.1 HK.out);have B:=hid (ua4 HK.out);generalize spK (cutG G) k=S at r B;generalize gv ⟨a6,a7,a4,a5⟩ (cutG G)=gg at r ⊢;go_wp2_with fail;refine r.out.mono ?_;rintro e j ⟨a,rfl,a2,Y⟩;have m:Below j.heap.size j (j.alloc (.cells (sC a S) 31)):=qb _ _
 have o:Hid (Below w.heap.size w (j.alloc (.cells (sC a S) 31))/\IsSp (j.alloc (.cells (sC a S) 31)) a S/\(j.alloc (.cells (sC a S) 31)).heap[j.heap.size]?=some (.cells (sC a S) 31 (0,0))):=⟨qd (qd H2.out.2 Y) m,a2.below m,heap_alloc_new _ _⟩
 clear a2 Y m H2 r;unfold sC
 go_upto_region 5 with fail
 have e4:j.alloc (.cells #[.int .i64 (S.tk:Int),.int .i64 (S.nt:Int),.int .i64 (S.st:Int),.int .i64 S.ex,.slice a.na S.nm.length a.nc,.slice a.la S.lv.length a.lc,.slice a.aa S.az.length a.ac,.slice a.ra S.rs.length a.rc] 31)=j.alloc (.cells (sC a S) 31):=rfl;rw[e4];generalize j.alloc (.cells (sC a S) 31)=V5 at o ⊢;generalize j.heap.size=b1 at o ⊢;clear e4
 by_cases h0:k=0
 ·obtain⟨n,E⟩:=B.out h0;have P:Hid (Calls Tryz.prog 16 #[.agg #[.int .i64 (S.tk:Int),.int .i64 (S.nt:Int),.int .i64 (S.st:Int),.int .i64 S.ex,.slice a.na S.nm.length a.nc,.slice a.la S.lv.length a.lc,.slice a.aa S.az.length a.ac,.slice a.ra S.rs.length a.rc]] V5 fun e f=>BO V5 S n e f):=qul V5 a S n E o.out.2.1;obtain⟨t1,t2,t3⟩:=ua5 E;subst h0;clear B E;obtain⟨c0,c1,c2,c3,c4,c5,c6,c7⟩:=sbox o.out.2.2;go_wp2_with fail;refine P.out.mono ?_;intro e c b4
  rcases b4 with ⟨rfl,-,hb6⟩ | ⟨ab,sa,sc,ss,ld,g,rfl,ham,hoa,hb6⟩
  ·have p:=hid (qd o.out.1 hb6);clear hb6;go_wp2_with fail;go_ret;exact⟨rfl,p.out⟩
  ·have A:=hid5 (qd o.out.1 hb6) (qf hb6 o.out.2.2) ham hoa (ubd hoa);have F:=hoa.l1;have b6:=hoa.lg;clear hb6 ham hoa c0 c1 c2 c3 c4 c5 c6 c7 P o
   have HC:Hid (∀V,Below c.heap.size c V->V.cell? ⟨b1,0,none⟩=some (.int .i64 (S.tk:Int))/\V.cell? ⟨b1,1,none⟩=some (.int .i64 (S.nt:Int))):=fun V Z=>by
    obtain⟨c0,c1,-⟩:=sbox (qf Z A.out.2.1);exact⟨c0,c1⟩
   have R:Hid (∀V,Below c.heap.size c V->Calls Tryz.prog 12 #[.pointer (some ⟨ab,0,none⟩)] V fun e f=>e=.returned (.int .i64 (ss.length:Int))/\f=V):=fun V Z=>qp4 (A.out.2.2.1.below Z)
   have Q:Hid (∀V,Below c.heap.size c V->∀i z:Nat,i<ss.length->z<n->∃x,g[i * n+z]?=some x/\Calls Tryz.prog 15 #[.pointer (some ⟨ab,0,none⟩),.int .i64 (i:Int),.int .i64 (z:Int)] V fun e f=>e=.returned (.int .i64 x)/\Below V.heap.size V f):=fun V Z i z hi hz=>by
    have l:i * n+z<g.length:=by
     have:(i+1) * n<=ss.length * n:=Nat.mul_le_mul_right n hi;rw[Nat.add_mul,Nat.one_mul]at this;omega
    refine⟨_,List.getElem?_eq_getElem l,?_⟩;have:=qu8 (A.out.2.2.1.below Z) A.out.2.2.2.1 (List.getElem?_eq_getElem hi) (z:Int) (by omega)
    have e:gAt n ss.length g i z=g[i * n+z]:=by
     unfold gAt;rw[if_pos ⟨by omega,by omega,by omega,by omega⟩,Int.toNat_natCast,Int.toNat_natCast,List.getElem?_eq_getElem l];rfl
    rw[e]at this;exact this
   have HV:=A.out.2.2.2.2
   have HT:Hid (nv (g.take (ss.length * n))=(ss.length:Int)):=by
    show _=_;rw[List.take_of_length_le (by omega)];exact HV.1
   have b2:=hid HV.2;have a9:=hid A.out.1;clear HV b6 A;generalize ss.length=u at F R Q HT;go_wp2_with fail
   go_loopg [8,9] u (fun kx s8 s9 wr=>∃(i:Nat) (x:Int),s8=.int .i64 x/\s9=.int .i64 (i:Int)/\i<=u/\u - i<=kx/\Hid (x=nv (g.take (i * n))/\Below c.heap.size c wr))
   case atStart=>exact⟨0,1,rfl,rfl,Nat.zero_le _,by omega,(⟨by rw[Nat.zero_mul];rfl,Below.refl _ _⟩:(1:Int)=nv (g.take (0 * n))/\Below c.heap.size c c)⟩
   case round =>
    obtain⟨i,x,rfl,rfl,hi,hg,J⟩:=hrel;have q:=hid (R.out wr J.out.2)
    by_cases l:i<u
    ·have a1:(i:Int)<(u:Int):=by omega
     go_wp2_with fail;refine q.out.mono ?_;rintro e f ⟨rfl,rfl⟩;go_wp2_with fail
     go_loopg [8,10] n (fun kx s8 s10 wr=>∃(z:Nat) (x:Int),s8=.int .i64 x/\s10=.int .i64 (z:Int)/\z<=n/\n - z<=kx/\Hid (x=nv (g.take (i * n+z))/\Below c.heap.size c wr))
     case atStart=>exact⟨0,x,rfl,rfl,Nat.zero_le _,by omega,J⟩
     case round =>
      clear J q;obtain⟨z,x,rfl,rfl,hz,c8,J⟩:=hrel;obtain⟨c0,c1⟩:=HC.out wr J.out.2
      by_cases H:z<n
      ·have a3:(z:Int)<=(S.tk:Int)+(S.nt:Int):=by omega
       obtain⟨y,hy,a0⟩:=Q.out wr J.out.2 i z l H
       have d3:y<=x:=by rw[J.out.1];exact b2.out _ y hy
       have d1:1<=x/\x<=100000:=by
        have:=ua3 (g.take (i * n+z));rw[<-J.out.1,List.length_take]at this;have h3:i * n<=120 * 301:=Nat.mul_le_mul (by omega) (by omega);omega
       have d0:decide (y > x)=false:=decide_eq_false (by omega);have b0:=hid a0;have d:=ubb hy;rw[<-J.out.1]at d;have HJ:=hid J.out.2;clear a0 hy J;go_wp2_with fail;refine b0.out.mono ?_;rintro e a8 ⟨rfl,hb⟩
       by_cases b:y=x
       ·have b5:(y == x)=true:=by rw[b];exact beq_self_eq_true x
        have p:Hid (x+1=nv (g.take (i * n+(z+1)))/\Below c.heap.size c a8):=⟨by rw[if_pos b]at d;rw[<-Nat.add_assoc,d],qd HJ.out hb⟩
        have b8:=hid b;clear b d hb;go_wp2_with fail;go_roundg (n - (z+1))
        case measure=>omega
        case rel=>exact⟨z+1,x+1,rfl,by simp,H,Nat.le_refl _,p⟩
       ·have b5:(y == x)=false:=by rw[beq_eq_false_iff_ne];exact b
        have p:Hid (x=nv (g.take (i * n+(z+1)))/\Below c.heap.size c a8):=⟨by rw[if_neg b]at d;rw[<-Nat.add_assoc,d],qd HJ.out hb⟩
        clear b d hb;go_wp2_with fail;go_roundg (n - (z+1))
        case measure=>omega
        case rel=>exact⟨z+1,x,rfl,by simp,H,Nat.le_refl _,p⟩
      ·have a3:¬(z:Int)<=(S.tk:Int)+(S.nt:Int):=by omega
       have p:Hid (x=nv (g.take ((i+1) * n))/\Below c.heap.size c wr):=by
        have e:(i+1) * n=i * n+z:=by rw[Nat.add_mul,Nat.one_mul];omega
        refine⟨?_,J.out.2⟩;rw[e];exact J.out.1
       clear J;go_wp2_with fail;go_roundg (u - (i+1))
       case measure=>omega
       case rel=>exact⟨i+1,x,rfl,by simp,l,Nat.le_refl _,p⟩
    ·have a1:¬(i:Int)<(u:Int):=by omega
     have D:i=u:=by omega
     have d2:(x == (u:Int))=true:=by
      rw[beq_iff_eq,J.out.1,D];exact HT.out
     have p:=hid (qd a9.out J.out.2);have b7:=hid D;clear J D;go_wp2_with fail;refine q.out.mono ?_;rintro e f ⟨rfl,rfl⟩;go_wp2_with fail;refine q.out.mono ?_;rintro e f ⟨rfl,rfl⟩;go_wp2_with fail;go_ret;exact⟨rfl,p.out⟩
 ·have b9:(k != 0)=true:=by rw[bne_iff_ne];exact h0
  go_wp2_with fail;go_ret;exact⟨rfl,o.out.1⟩
end Go.Proofs.YtbdogaaooeoccaaGreatDoor.Order
namespace Go.Proofs.YtbdogaaooeoccaaGreatDoor
open Go.RowKit
theorem uap(l m:List It)(X:Option Addr)(a G:Nat)(Y:Option Addr)(s H:Nat)(w:World)(E:ItR w X a G l)(F:ItR w Y s H m)(hn:a<=100000)(r:Bool)(hp:r=true↔l=m):
  Calls Tryz.prog 17 #[.slice X a G,.slice Y s H] w fun e w'=>e=.returned (.bool r)/\Below w.heap.size w w':=by
 have p:=hid2 (yz E).symm (yz F).symm;have C:=hid hp;have V:=hid2 E F;have q1:a<=G/\G<=9223372036854775807:=zk E;have q2:s<=H/\H<=9223372036854775807:=zk F;clear hp E F
 by_cases o:a=s
 ·have hb:((a:Int) != (s:Int))=false:=by simp[o]
  go_enter Tryz.func17,Tryz.ntmps17;go_wp2_with fail
  go_loopg [5] a (fun kx s5 wr=>∃k:Nat,s5=.int .i64 k/\k<=a/\a - k<=kx/\Hid (Below w.heap.size w wr/\∀(i:Nat) (x y:It),i<k->l[i]?=some x->m[i]?=some y->x=y))
  case atStart=>exact⟨0,rfl,Nat.zero_le _,by omega,(⟨Below.refl _ _,fun i x y h=>absurd h (Nat.not_lt_zero _)⟩:Below w.heap.size w _/\∀(i:Nat) (x y:It),i<0->l[i]?=some x->m[i]?=some y->x=y)⟩
  case round =>
   obtain⟨k,rfl,hk,hg,J⟩:=hrel
   by_cases O:k<a
   ·have z:(k:Int)<(a:Int):=by omega
    obtain⟨x,t⟩:∃x,l[k]?=some x:=⟨l[k]'(by rw[<-p.out.1];exact O),List.getElem?_eq_getElem _⟩
    obtain⟨y,A⟩:∃y,m[k]?=some y:=⟨m[k]'(by rw[<-p.out.2];omega),List.getElem?_eq_getElem _⟩
    obtain⟨b1,o1,rfl,c1,K⟩:=qe5 (V.out.1.below J.out.1) t;obtain⟨b2,o2,rfl,c2,L⟩:=qe5 (V.out.2.below J.out.1) A;have D:=hid2 t A;clear t A
    have Z:k<s:=by omega
    obtain⟨S,R⟩:=x;obtain⟨U,T⟩:=y;simp only at c1 K c2 L
    go_upto_region 6 with fail
    have g1:=zi c1;have g2:=zi c2;have g3:=zi K;have g4:=zi L
    have I:Hid (∀n os,Below w.heap.size w (onto wr n os)):=fun n os=>qd J.out.1 (ke wr n os)
    clear c1 c2 K L
    by_cases b:S=U
    ·have M:((S:Int) != (U:Int))=false:=by simp[b]
     by_cases f:R=T
     ·have N:((R:Int) != (T:Int))=false:=by simp[f]
      have g:Hid (∀(i:Nat) (x y:It),i<k+1->l[i]?=some x->m[i]?=some y->x=y):=fun i u v hi P Q=>by
       rcases Nat.lt_or_ge i k with h | h
       ·exact J.out.2 i u v h P Q
       ·have:i=k:=by omega
        subst this;rw[D.out.1]at P;rw[D.out.2]at Q
        cases P;cases Q
        rw[b,f]
      clear b f J;refine zn (by kernel_rfl) ?_
      repeat (go_big_quiet_step (fail))
      refine wpQuiet_nil ?_;intro _ d;obtain⟨⟨nq,B⟩,c⟩:=d;subst c;simp only;go_wp2_with fail;go_roundg (a - (k+1))
      case measure=>omega
      case rel=>exact⟨k+1,by simp,by omega,Nat.le_refl _,(⟨I.out _ _,g.out⟩:Below w.heap.size w _/\∀(i:Nat) (x y:It),i<k+1->l[i]?=some x->m[i]?=some y->x=y)⟩
     ·have N:((R:Int) != (T:Int))=true:=by rw[bne_iff_ne];omega
      have g:Hid (r=false):=zj C.out (fun h=>by have j:=D.out;rw[h]at j;rw[j.1]at j;have q:=Option.some.inj j.2;injection q with _ q;exact f q)
      clear b f J;refine zn (by kernel_rfl) ?_
      repeat (go_big_quiet_step (fail))
      refine wpQuiet_nil ?_;intro _ d;obtain⟨⟨nq,B⟩,c⟩:=d;subst c;simp only;go_wp2_with fail;go_ret;exact⟨by rw[g.out];rfl,I.out _ _⟩
    ·have M:((S:Int) != (U:Int))=true:=by rw[bne_iff_ne];omega
     have g:Hid (r=false):=zj C.out (fun h=>by have j:=D.out;rw[h]at j;rw[j.1]at j;have q:=Option.some.inj j.2;injection q with q _;exact b q)
     clear b J;refine zn (by kernel_rfl) ?_
     repeat (go_big_quiet_step (fail))
     refine wpQuiet_nil ?_;intro _ d;obtain⟨⟨nq,B⟩,c⟩:=d;subst c;simp only;go_wp2_with fail;go_ret;exact⟨by rw[g.out];rfl,I.out _ _⟩
   ·have z:¬(k:Int)<(a:Int):=by omega
    have g:Hid (r=true):=xh C.out (qbq (by rw[<-p.out.1,<-p.out.2];exact o) (fun i x y t A=>J.out.2 i x y (by have:=(List.getElem?_eq_some_iff.1 t).1;rw[<-p.out.1]at this;omega) t A))
    go_wp2_with fail;go_ret;exact⟨by rw[g.out];rfl,J.out.1⟩
 ·have hb:((a:Int) != (s:Int))=true:=by simp;omega
  have g:=hid (zj C.out (fun h=>o (by rw[p.out.1,p.out.2,h])));clear o;go_enter Tryz.func17,Tryz.ntmps17;go_wp2_with fail;go_ret;exact⟨by rw[g.out];rfl,Below.refl _ _⟩
theorem ube{n i z:Nat}(a:z<n):(i * n+z) / n=i/\(i * n+z) % n=z:=by
 refine⟨?_,?_⟩
 ·rw[Nat.mul_comm,Nat.mul_add_div (by omega),Nat.div_eq_of_lt a];rfl
 ·rw[Nat.mul_comm,Nat.mul_add_mod,Nat.mod_eq_of_lt a]
theorem ubf{S:Sp}{n:Nat}{b:List Sta}{L:Lds}{g:List Int}(h:OA S n b L g (b.length * n+0)):
  (∀(i j:Nat) (s t:Sta),b[i]?=some s->b[j]?=some t->s.K=t.K->i=j) /\
  (∀j:Nat,0<j->j<b.length->∃u,u<b.length * n/\g[u]?=some (j:Int)) /\
  (∀(i z:Nat) (x:Int),z<n->g[i * n+z]?=some x->x=-1\/∃(j:Nat) (s:Sta),x=(j:Int)/\b[j]?=some s/\∀y∈s.K,∃(a d:Nat) (r:SR),y=(a,d+1)/\S.rs[a]?=some r/\r.r[d]?=some z):=by
 obtain⟨C,E⟩:=qua S;have k:=qld S C n _ _ g (h.ha C E)
 have o:∀{i:Nat} {s:Sta},b[i]?=some s->(b.map (·.K))[i]?=some s.K:=fun f=>by rw[List.getElem?_map,f];rfl
 refine⟨fun i j s t f H e=>k.nd i j s.K (o f) (by rw[o H,e]),fun j F G=>?_,fun i z x J I=>?_⟩
 ·obtain⟨u,q,c⟩:=k.kk j _ F (List.getElem?_eq_getElem (by rw[List.length_map];exact G))
  exact⟨u,by omega,c⟩
 ·obtain⟨-,K,q,c⟩:=k.gg _ x I;obtain⟨-,p⟩:=ube (i:=i) J;rw[p]at c
  rcases c with ⟨c,-⟩ | ⟨j,c,h3,-⟩
  ·exact .inl c
  ·rw[List.getElem?_map]at h3;obtain⟨s,f,l⟩:=Option.map_eq_some_iff.1 h3;refine .inr ⟨j,s,c,f,fun y m=>?_⟩;rw[l]at m;obtain⟨a,d,v,-,A⟩:=qm4.1 m;obtain⟨r,B,D⟩:=qlb A;exact⟨a,d,r,v,B,D⟩
structure LE (V6 wr:World) (g:List Int) (lb ln t:Nat) (LB:List Bool):Prop where
 bel:Below V6.heap.size V6 wr
 ge:V6.heap.size<=lb
 own:wr.ownsRow V6.heap.size 4 1 (.slice (some ⟨lb,0,none⟩) ln ln) ln (booC LB)
 len:LB.length=ln
 dn:∀(u:Nat) (j:Nat),u<t->g[u]?=some (j:Int)->isF LB j=true
theorem LE.step{c wr a:World}{g:List Int}{lb f t:Nat}{b:List Bool}(h:LE c wr g lb f t b)(d:Below wr.heap.size wr a):LE c a g lb f t b :=
 ⟨qd h.bel d,h.ge,zl h.own d,h.len,h.dn⟩
theorem LE.skip{c wr:World}{g:List Int}{lb d t:Nat}{b:List Bool}(h:LE c wr g lb d t b)(f:g[t]?=some (-1)):LE c wr g lb d (t+1) b :=
 ⟨h.bel,h.ge,h.own,h.len,fun u j i a=>by
  rcases Nat.lt_or_ge u t with e | e
  ·exact h.dn u j e a
  ·have e:u=t:=by omega
   subst e;rw[f]at a
   injection a with a
   omega⟩
theorem LE.set{f wr:World}{g:List Int}{lb d t j:Nat}{c:List Bool}(h:LE f wr g lb d t c)(l:g[t]?=some (j:Int))(k:j<d):LE f (wr.setCell ⟨lb,j,none⟩ (.bool true)) g lb d (t+1) (c.set j true):=by
 refine⟨h.bel.setCell (p:=⟨lb,j,none⟩) h.ge _,h.ge,?_,by rw[List.length_set];exact h.len,fun u i m a=>?_⟩
 ·rw[qb8];exact(h.own.stored j (.bool true)).1
 ·have b:j<c.length:=by rw[h.len];exact k
  rcases Nat.lt_or_ge u t with e | e
  ·exact qat b (h.dn u i e a)
  ·have e:u=t:=by omega
   subst e;rw[l]at a
   injection a with a
   have:j=i:=by omega
   subst this;rw[ky b,if_pos rfl]
end Go.Proofs.YtbdogaaooeoccaaGreatDoor
namespace Go.Proofs.YtbdogaaooeoccaaGreatDoor.Unlike
open Go.RowKit
theorem walk(h:Hd)(G:Gm)(w:World)(hp:Pow w)(hG:RawG w h G):Calls Tryz.prog 6 #[gv h G] w fun e D=>e=.returned (.bool true)/\Below w.heap.size w D:=by
 obtain⟨ta,tc,ra,rc⟩:=h;obtain⟨k,hk⟩:=uau (cutG G);have HK:=hid hk;have M:Below w.heap.size w (w.alloc (.cells #[.slice ta G.ts.length tc,.string G.s,.int .i64 G.e,.slice ra G.rs.length rc] 25)):=qb _ _;have O:(w.alloc (.cells #[.slice ta G.ts.length tc,.string G.s,.int .i64 G.e,.slice ra G.rs.length rc] 25)).heap[w.heap.size]?=some (.cells #[.slice ta G.ts.length tc,.string G.s,.int .i64 G.e,.slice ra G.rs.length rc] 25 (0,0)):=heap_alloc_new _ _;have HR:=hid2 (hG.below M) (hp.below M);clear hG hp hk;unfold gv;simp only
 obtain⟨tn,d6⟩:∃tn,Hid (G.ts.length=tn):=⟨_,rfl⟩
 obtain⟨rn,d3⟩:∃rn,Hid (G.rs.length=rn):=⟨_,rfl⟩
 rw[d6.out]at M O HR ⊢;rw[d3.out]at M O HR ⊢;go_enter Tryz.func6,Tryz.ntmps6
 go_upto_region 1 with fail
 generalize w.alloc (.cells #[.slice ta tn tc,.string G.s,.int .i64 G.e,.slice ra rn rc] 25)=W1 at M O HR ⊢
 obtain⟨nb,i1⟩:∃nb,Hid (nb=w.heap.size):=⟨_,rfl⟩
 rw[<-i1.out]at O ⊢;have H1:=hid2 M O;clear M O;go_wp2_with fail;refine(xp W1 HR.out.2).mono ?_;rintro e V1 ⟨rfl,hB⟩;have X:=hid3 (HR.out.1.below hB) (qd H1.out.1 hB) (qf hB H1.out.2);clear hB HR H1;obtain⟨p0,p1,p2,p3⟩:=box4 X.out.2.2
 have a1:Hid (Calls Tryz.prog 10 #[.agg #[.slice ta tn tc,.string G.s,.int .i64 G.e,.slice ra rn rc]] V1 fun e D=>∃h' qs,e=.returned (gv h' (cutG G))/\OwnG D V1.heap.size h' (cutG G) qs/\Below V1.heap.size V1 D):=by
  have:=quu G ⟨ta,tc,ra,rc⟩ V1 X.out.1;unfold gv at this;simp only at this;rw[d6.out,d3.out]at this;exact this
 go_wp2_with fail;refine a1.out.mono ?_;rintro e V2 ⟨⟨h8,h9,h6,h7⟩,qs,rfl,ho,hB⟩;have H2:=hid2 (ho.isG (uab G)) (qd X.out.2.1 hB);clear ho hB a1 X p0 p1 p2 p3;have U:=hid (qtb (cutG G) ⟨h8,h9,h6,h7⟩ V2 k H2.out.1 HK.out);have a5:=hid (ua4 HK.out);generalize spK (cutG G) k=S at U a5;generalize gv ⟨h8,h9,h6,h7⟩ (cutG G)=gg at U ⊢;go_wp2_with fail;refine U.out.mono ?_;rintro e E ⟨b,rfl,h3,d7⟩;have M:Below E.heap.size E (E.alloc (.cells (sC b S) 31)):=qb _ _
 have N:Hid (Below w.heap.size w (E.alloc (.cells (sC b S) 31))/\IsSp (E.alloc (.cells (sC b S) 31)) b S/\(E.alloc (.cells (sC b S) 31)).heap[E.heap.size]?=some (.cells (sC b S) 31 (0,0))):=⟨qd (qd H2.out.2 d7) M,h3.below M,heap_alloc_new _ _⟩
 clear h3 d7 M H2 U;unfold sC
 go_upto_region 5 with fail
 have e4:E.alloc (.cells #[.int .i64 (S.tk:Int),.int .i64 (S.nt:Int),.int .i64 (S.st:Int),.int .i64 S.ex,.slice b.na S.nm.length b.nc,.slice b.la S.lv.length b.lc,.slice b.aa S.az.length b.ac,.slice b.ra S.rs.length b.rc] 31)=E.alloc (.cells (sC b S) 31):=rfl;rw[e4];generalize E.alloc (.cells (sC b S) 31)=V5 at N ⊢;generalize E.heap.size=b1 at N ⊢;clear e4
 by_cases h0:k=0
 ·obtain⟨n,Y⟩:=a5.out h0;have b7:Hid (Calls Tryz.prog 16 #[.agg #[.int .i64 (S.tk:Int),.int .i64 (S.nt:Int),.int .i64 (S.st:Int),.int .i64 S.ex,.slice b.na S.nm.length b.nc,.slice b.la S.lv.length b.lc,.slice b.aa S.az.length b.ac,.slice b.ra S.rs.length b.rc]] V5 fun e D=>BO V5 S n e D):=qul V5 b S n Y N.out.2.1;obtain⟨t1,t2,t3⟩:=ua5 Y;subst h0;have o:=hid Y;clear a5 Y;obtain⟨c0,c1,c2,c3,c4,c5,c6,c7⟩:=sbox N.out.2.2;go_wp2_with fail;refine b7.out.mono ?_;intro e m i5
  rcases i5 with ⟨rfl,-,hb6⟩ | ⟨ab,sa,sc,ss,ld,g,rfl,ham,hoa,hb6⟩
  ·have Q:=hid (qd N.out.1 hb6);clear hb6;go_wp2_with fail;go_ret;exact⟨rfl,Q.out⟩
  ·have HU:=hid (ubf hoa);have b8:=hid hoa.cs;have H6:=hid5 (qd N.out.1 hb6) (qf hb6 N.out.2.2) ham hoa (N.out.2.1.below hb6);have b3:=hoa.l1;have i8:=hoa.lg;clear hb6 ham hoa c0 c1 c2 c3 c4 c5 c6 c7 b7 N
   have HC:Hid (∀V,Below m.heap.size m V->V.cell? ⟨b1,0,none⟩=some (.int .i64 (S.tk:Int))/\V.cell? ⟨b1,1,none⟩=some (.int .i64 (S.nt:Int))/\V.cell? ⟨b1,7,none⟩=some (.slice b.ra S.rs.length b.rc)):=fun V hV=>by
    obtain⟨c0,c1,-,-,-,-,-,c7⟩:=sbox (qf hV H6.out.2.1);exact⟨c0,c1,c7⟩
   have d1:Hid (Calls Tryz.prog 12 #[.pointer (some ⟨ab,0,none⟩)] m fun e D=>e=.returned (.int .i64 (ss.length:Int))/\D=m):=qp4 H6.out.2.2.1
   have a4:Hid (∀V,Below m.heap.size m V->∀(i:Nat) (s:Sta),ss[i]?=some s->Calls Tryz.prog 13 #[.pointer (some ⟨ab,0,none⟩),.int .i64 (i:Int)] V fun e D=>∃g c,e=.returned (.slice (some ⟨g,0,none⟩) s.K.length c)/\ItR D (some ⟨g,0,none⟩) s.K.length c s.K/\Below V.heap.size V D):=fun V hV i s hs=>by
    obtain⟨-,I,g4⟩:=b8.out s (List.mem_of_getElem? hs);have:=qe3 I.so I.ok o.out.nr o.out.ln;exact qu2 (H6.out.2.2.1.below hV) hs (List.length_pos_iff.2 g4) (by omega)
   have a2:Hid (∀(i:Nat) (s:Sta),ss[i]?=some s->s.K.length<=840):=fun i s hs=>by
    obtain⟨-,I,g4⟩:=b8.out s (List.mem_of_getElem? hs);exact qe3 I.so I.ok o.out.nr o.out.ln
   have b9:Hid (∀V,Below m.heap.size m V->∀i z:Nat,i<ss.length->z<n->∃x,g[i * n+z]?=some x/\Calls Tryz.prog 15 #[.pointer (some ⟨ab,0,none⟩),.int .i64 (i:Int),.int .i64 (z:Int)] V fun e D=>e=.returned (.int .i64 x)/\Below V.heap.size V D):=fun V hV i z hi hz=>by
    have C:i * n+z<g.length:=by
     have:(i+1) * n<=ss.length * n:=Nat.mul_le_mul_right n hi;rw[Nat.add_mul,Nat.one_mul]at this;omega
    refine⟨_,List.getElem?_eq_getElem C,?_⟩;have:=qu8 (H6.out.2.2.1.below hV) H6.out.2.2.2.1 (List.getElem?_eq_getElem hi) (z:Int) (by omega)
    have e:gAt n ss.length g i z=g[i * n+z]:=by
     unfold gAt;rw[if_pos ⟨by omega,by omega,by omega,by omega⟩,Int.toNat_natCast,Int.toNat_natCast,List.getElem?_eq_getElem C];rfl
    rw[e]at this;exact this
   have a3:=hid2 H6.out.1 H6.out.2.2.2.2;obtain⟨W7,a9,g7,p⟩:=qdr m m.heap.size ss.length (by omega) (Nat.le_refl _)
   have T:Hid (∃f,LE m W7 g m.heap.size ss.length 0 f):=⟨_,p,Nat.le_refl _,g7,List.length_replicate,fun u j hu=>absurd hu (Nat.not_lt_zero _)⟩
   have b4:Hid (∀i,i<ss.length->∃s,ss[i]?=some s):=fun i hi=>⟨_,List.getElem?_eq_getElem hi⟩
   have d5:Hid (∀(i:Nat) (s:Sta),ss[i]?=some s->i<ss.length):=fun i s hs=>(List.getElem?_eq_some_iff.1 hs).1
   clear i8 H6 g7 p
   obtain⟨l,i0⟩:∃l,Hid (ss.length=l):=⟨_,rfl⟩
   rw[i0.out]at b3 d1 b9 HU a9 T b4 d5;generalize g5:m.heap.size=lb at a9 T;have k2:=hid g5;clear g5;go_wp2_with fail;refine d1.out.mono ?_;rintro e m ⟨rfl,rfl⟩;go_wp2_with fail;clear a9
   go_loopg [10] l (fun kx s10 wr=>∃i:Nat,s10=.int .i64 (i:Int)/\i<=l/\l - i<=kx/\Hid (∃f,LE m wr g lb l (i * n) f))
   case atStart=>exact⟨0,rfl,Nat.zero_le _,by omega,(by obtain⟨f,h⟩:=T.out;exact⟨f,by rw[Nat.zero_mul];exact h⟩:∃f,LE m W7 g lb l (0 * n) f)⟩
   case round =>
    clear T;obtain⟨i,rfl,hi,hg,J⟩:=hrel
    by_cases C:i<l
    ·have g6:(i:Int)<(l:Int):=by omega
     obtain⟨s,hs⟩:=b4.out i C;have HS:=hid hs;clear hs;go_wp2_with fail
     go_loopg [11] i (fun kx s11 wr=>∃q:Nat,s11=.int .i64 (q:Int)/\q<=i/\i - q<=kx/\Hid (∃f,LE m wr g lb l (i * n) f))
     case atStart=>exact⟨0,rfl,Nat.zero_le _,by omega,J⟩
     case round =>
      clear J;obtain⟨q,rfl,hq,i6,J⟩:=hrel
      by_cases v:q<i
      ·have t:(q:Int)<(i:Int):=by omega
       obtain⟨s2,h4⟩:=b4.out q (by omega);obtain⟨f,le⟩:=J.out;have HA:=hid (a4.out wr le.bel i s HS.out);have B:=hid le;have d4:=hid h4;clear J le h4;go_wp2_with fail;refine HA.out.mono ?_;rintro e V7 ⟨g1,c1,rfl,A,d8⟩;have P:=hid2 (B.out.step d8) A;have b6:=hid (a4.out V7 P.out.1.bel q s2 d4.out);have L2:=zk A;clear A d8 HA B;go_wp2_with fail;refine b6.out.mono ?_;rintro e F ⟨g2,c2,rfl,g8,a7⟩;have H8:=hid (P.out.1.step a7)
       have HE:=hid (uap s.K s2.K _ s.K.length c1 _ s2.K.length c2 F (P.out.2.below a7) g8 (by have:=a2.out i s HS.out;omega) false (by
        constructor
        ·intro h;cases h
        ·intro h;have:=HU.out.1 i q s s2 HS.out d4.out h
         omega))
       clear g8 a7 b6 P;go_wp2_with fail;refine HE.out.mono ?_;rintro e V9 ⟨rfl,f0⟩
       have Q:Hid (∃f,LE m V9 g lb l (i * n) f):=⟨f,H8.out.step f0⟩
       clear f0 H8 HE;go_wp2_with fail;go_roundg (i - (q+1))
       case measure=>omega
       case rel=>exact⟨q+1,by simp,v,Nat.le_refl _,Q⟩
      ·have t:¬(q:Int)<(i:Int):=by omega
       go_wp2_with fail
       go_loopg [12] n (fun kx s12 wr=>∃z:Nat,s12=.int .i64 (z:Int)/\z<=n/\n - z<=kx/\Hid (∃f,LE m wr g lb l (i * n+z) f))
       case atStart=>exact⟨0,rfl,Nat.zero_le _,by omega,J⟩
       case round =>
        clear J;obtain⟨z,rfl,hz,k6,J⟩:=hrel;obtain⟨f,le⟩:=J.out;obtain⟨c0,c1,-⟩:=HC.out wr le.bel
        by_cases a0:z<n
        ·have h5:(z:Int)<=(S.tk:Int)+(S.nt:Int):=by omega
         obtain⟨x,O,g0⟩:=b9.out wr le.bel i z C a0;have R:=hid g0;have B:=hid2 le O;have a8:=HU.out.2.2 i z x a0 O;clear J le g0 O
         rcases a8 with rfl | ⟨j,s3,rfl,hs3,hit⟩
         ·go_wp2_with fail;refine R.out.mono ?_;rintro e V7 ⟨rfl,p⟩
          have Q:Hid (∃f,LE m V7 g lb l (i * n+(z+1)) f):=⟨f,by rw[<-Nat.add_assoc];exact(B.out.1.step p).skip B.out.2⟩
          clear p B R;go_wp2_with fail;go_roundg (n - (z+1))
          case measure=>omega
          case rel=>exact⟨z+1,by simp,a0,Nat.le_refl _,Q⟩
         ·have g3:=d5.out j s3 hs3;have l0:decide ((j:Int)<0)=false:=decide_eq_false (by omega);have l2:decide ((j:Int) ≥ (l:Int))=false:=decide_eq_false (by omega)
          have l3:(j:Int)<(l:Int):=by omega
          have a6:=hid2 hs3 hit;clear hs3 hit;go_wp2_with fail;refine R.out.mono ?_;rintro e V7 ⟨rfl,p⟩;have P:=hid (B.out.1.step p);have fz:=P.out.own.frozenAt j;have cz:V7.cell? ⟨lb,j,none⟩=some (.bool (isF f j)):=qmu P.out.own g3;have H8:=hid (P.out.set B.out.2 g3);have c8:=hid (a4.out _ H8.out.bel j s3 a6.out.1);clear p B R;go_wp2_with fail;refine c8.out.mono ?_;rintro e F ⟨g1,kc,rfl,A,d9⟩;have H9:=hid (H8.out.step d9);have d2:=hid A;have L2:=zk A;have i2:=a2.out j s3 a6.out.1
          obtain⟨kl,d0⟩:∃kl,Hid (s3.K.length=kl):=⟨_,rfl⟩
          rw[d0.out]at L2 i2 d2 ⊢;clear A d9 c8 H8 P cz fz c0 c1;go_wp2_with fail
          go_loopg [15] kl (fun kx s15 wr=>∃q:Nat,s15=.int .i64 (q:Int)/\q<=kl/\kl - q<=kx/\Hid (Below F.heap.size F wr))
          case atStart=>exact⟨0,rfl,Nat.zero_le _,by omega,(Below.refl _ _:Below F.heap.size F F)⟩
          case round =>
           obtain⟨q,rfl,hq,k7,J⟩:=hrel
           by_cases v:q<kl
           ·have t:(q:Int)<(kl:Int):=by omega
            obtain⟨y,hy⟩:∃y,s3.K[q]?=some y:=⟨s3.K[q]'(by rw[d0.out];exact v),List.getElem?_eq_getElem _⟩
            obtain⟨a,d,r,rfl,Z,b0⟩:=a6.out.2 y (List.mem_of_getElem? hy);obtain⟨b2,o2,e2,y0,y1⟩:=qe5 (d2.out.below J.out) hy
            injection e2 with e2
            injection e2 with e2 e3
            subst e2 e3;rw[Nat.zero_add]at y0 y1;simp only at y0 y1;have H:=qd H9.out.bel J.out;obtain⟨-,-,c7⟩:=HC.out wr H;obtain⟨l6,ro,xa,xc,g9,-,r1,-,-,L⟩:=(a3.out.2.below H).rl.at Z;obtain⟨xb,L1,rfl,cx⟩:=yd L b0;rw[g9]at c7;have k4:=(List.getElem?_eq_some_iff.1 Z).1;have k5:=(List.getElem?_eq_some_iff.1 b0).1;have k1:r.r.length<=20:=o.out.ln r (List.mem_of_getElem? Z);have l4:=o.out.nr;have qx:=zk L;have qr:=vn a3.out.2.rl
            have e5:((d+1:Nat):Int)=(d:Int)+1:=by omega
            rw[e5]at y1;have f1:decide ((a:Int)<0)=false:=decide_eq_false (by omega);have f2:decide ((a:Int) ≥ (S.rs.length:Int))=false:=decide_eq_false (by omega);have f3:decide ((d:Int)+1<1)=false:=decide_eq_false (by omega);have f4:decide ((d:Int)+1 > (r.r.length:Int))=false:=decide_eq_false (by omega);have B:=hid J.out;clear J hy Z b0 L g9 H e5
            have f5:((z:Int) != (z:Int))=false:=by simp
            have f6:decide (S.rs.length<=a)=false:=decide_eq_false (by omega);have f7:decide ((r.r.length:Int)<(d:Int)+1)=false:=decide_eq_false (by omega);have f8:decide (r.r.length<d+1)=false:=decide_eq_false (by omega);have f9:decide (r.r.length<=d)=false:=decide_eq_false (by omega)
            go_upto_region 32 with fail
            have z1:=zi y0;have z2:=zi y1;have z3:=zi c7;have z4:=zi r1;have z5:=zi cx
            have HO:Hid (∀n os,Below F.heap.size F (onto wr n os)):=fun n os=>qd B.out (ke wr n os)
            clear y0 y1 c7 r1 cx;refine zn (by kernel_rfl) ?_
            repeat (go_big_quiet_step (fail))
            refine wpQuiet_nil ?_;intro _ k0;obtain⟨⟨nq,l5⟩,j0⟩:=k0;subst j0;simp only;go_wp2_with fail;go_roundg (kl - (q+1))
            case measure=>omega
            case rel=>exact⟨q+1,by simp,v,Nat.le_refl _,(HO.out _ _:Below F.heap.size F _)⟩
           ·have t:¬(q:Int)<(kl:Int):=by omega
            have Q:Hid (∃f,LE m wr g lb l (i * n+(z+1)) f):=⟨_,by rw[<-Nat.add_assoc];exact H9.out.step J.out⟩
            clear J H9;go_wp2_with fail;go_roundg (n - (z+1))
            case measure=>omega
            case rel=>exact⟨z+1,by simp,a0,Nat.le_refl _,Q⟩
        ·have h5:¬(z:Int)<=(S.tk:Int)+(S.nt:Int):=by omega
         have Q:Hid (∃f,LE m wr g lb l ((i+1) * n) f):=⟨f,by
          have e:(i+1) * n=i * n+z:=by rw[Nat.add_mul,Nat.one_mul];omega
          rw[e];exact le⟩
         clear J le;go_wp2_with fail;go_roundg (l - (i+1))
         case measure=>omega
         case rel=>exact⟨i+1,by simp,C,Nat.le_refl _,Q⟩
    ·have g6:¬(i:Int)<(l:Int):=by omega
     have he:i=l:=by omega
     obtain⟨f,le⟩:=J.out
     have b5:Hid (∀j,0<j->j<l->isF f j=true):=fun j b h2=>by
      obtain⟨u,hu,i7⟩:=HU.out.2.1 j b h2;exact le.dn u j (by rw[he];exact hu) i7
     have B:=hid le;clear J le he;go_wp2_with fail
     go_loopg [16] l (fun kx s16 wz=>∃q:Nat,s16=.int .i64 (q:Int)/\1<=q/\l - q<=kx/\Hid (LE m wz g lb l (i * n) f))
     case atStart=>exact⟨1,rfl,Nat.le_refl _,by omega,B⟩
     case round =>
      clear B;obtain⟨q,rfl,hq,i6,J⟩:=hrel
      by_cases v:q<l
      ·have t:(q:Int)<(l:Int):=by omega
       have cz:=qmu J.out.own v;rw[b5.out q hq v]at cz;go_wp2_with fail;go_roundg (l - (q+1))
       case measure=>omega
       case rel=>exact⟨q+1,by simp,by omega,Nat.le_refl _,J⟩
      ·have t:¬(q:Int)<(l:Int):=by omega
       go_wp2_with fail;go_ret;exact⟨rfl,qd a3.out.1 J.out.bel⟩
 ·have k3:(k != 0)=true:=by rw[bne_iff_ne];exact h0
  go_wp2_with fail;go_ret;exact⟨rfl,N.out.1⟩
end Go.Proofs.YtbdogaaooeoccaaGreatDoor.Unlike
namespace Go.Proofs.YtbdogaaooeoccaaGreatDoor.Unlike
open Go.ChangeShapes Go.WideShapes Go.ChangeAt Go.RowKit
open Go.ChangeMaps (open_string shut_string)

theorem lifted(os : Os)(b : os.Started)(H : Type)(enc : TypeId × Value -> H):
    ReturnsInHanded {} Tryz.checked os 6 .any (fun w args => (Rows.autoUnlikeSpec.pre enc Tryz.prog Tryz.f6 [] false w args /\ laidMetH Tryz.prog qsa w) /\ sizedMet enc Tryz.prog Tryz.f6 (OpenSpec.ofChange Rows.autoUnlikeSpec) false w args) (Rows.autoUnlikeSpec.post enc Tryz.prog Tryz.f6 false true false false) := by
  refine returnsInHanded_of_change_and (C := Tryz.checked) (X := fun w _ => laidMetH Tryz.prog qsa w) (fun _ _ _ G h => h.of_heap G) own b (by kernel_rfl) Tryz.func6
    (ChangeSpec.witness_shaped (enc := enc) (C := Tryz.checked) (os := os) (X := fun w _ => laidMetH Tryz.prog qsa w) false (World.doorLaid Tryz.prog 192 os) #[.agg #[.slice none 0 0, .string ⟨#[]⟩, .int .i64 0, .slice none 0 0]] 8 rfl (World.shaped_of_RefB (by kernel_rfl) (by kernel_rfl)) (by kernel_rfl) (by kernel_rfl) (by kernel_rfl) (qu3 os _)) ?_
  intro W d args A O k a r _ _ D _;have c : ∀(j : Nat) t v, Tryz.f6.params[j]? = some t -> args[j]? = some v -> Value.okWide Tryz.prog W .any d t v := a;have g := r;obtain⟨p, q, f, E, rfl, _, _⟩ := r;have o : DataW.TrodAll enc Tryz.prog W 0 (fun _ => true) true Tryz.f6.params.toList args.toList A p := f;rw[Tryz.params6]at o c;obtain⟨u, L, N, B, J, P, _, rfl, rfl, n, K⟩ := trodAll_cons o;obtain⟨rfl, rfl, rfl⟩ := trodAll_nil K
  obtain rfl : args = #[u] := by cases args; simp_all
  obtain⟨rfl, rfl⟩ := trodVars_none E;have s := n
  have l : ∀x ∈ J, x.block < W.heap.size := by obtain⟨m, I⟩ := s; exact DataW.trod_lt m _ _ _ I
  obtain⟨z, y, rfl, i⟩ := uat (c 0 25 u rfl rfl) n;clear f a;simp only[List.append_nil]at g
  refine(walk z y W (quk D) i ).mono fun e M ⟨F, bel⟩ => ?_
  subst F;exact⟨_, rfl, _, _, _, [], _, [], g, trodAll_mk1 (shut_bool Tryz.underlying4 _), (trodAll_cons_mk (Below.trod qu5 (by kernel_rfl) (of_decide_eq_true (by kernel_rfl)) s bel l) trodAll_mk0), rfl, bel.frame _, fun h => by cases h⟩

theorem over: Rows.autoUnlikeRow.holds Tryz.pinned (OpenSpec.ofChange Rows.autoUnlikeSpec) :=
  OpenClaim.holds_of_wide 6 Tryz.f6 rfl rfl rfl rfl rfl rfl rfl ⟨rfl, rfl, rfl, rfl, rfl⟩ rfl rfl rfl rfl rfl (by kernel_rfl) Tryz.func6 (by kernel_rfl)
    (of_decide_eq_true (by kernel_rfl)) (by unfold Func.isWrapper; first | (rw[if_pos (by decide +kernel)]; kernel_rfl) | (rw[if_neg (by decide +kernel)]; exact⟨rfl, rfl⟩))
    (fun os a H enc _ => lifted os a H enc)

theorem card: Claim7.holds Tryz.pinned (.plain (OpenSpec.ofChange Rows.autoUnlikeSpec)) Rows.autoUnlikeCard :=
  Claim7.holds_tied_plain_at .later [] [.data, .data, .data, .sentinel, .sentinel] true (true, "a27ab39b3c8f99ea519f981189f302ed256bb7d79b1c747cbd43c342c5b3eb20") true
    over (fun _ h => by cases h) (by kernel_rfl) (fun _ h => by cases h) autoUnlike_row_tie rfl ⟨rfl, rfl⟩ (by kernel_rfl) rfl
    (fun f d g b => by
      obtain rfl : f = 6 := Option.some.inj ((show Tryz.prog.funcNamed "donatus/donatuslaw9.AutoUnlike" = some 6 by kernel_rfl).symm.trans g) |>.symm
      obtain rfl : d = Tryz.f6 := (Option.some.inj (Tryz.func6.symm.trans b)).symm
      exact⟨by kernel_rfl, fun j t c => by
        rw[Tryz.params6]at c
        have i : t ∈ ([25] : List TypeId) := by simpa using Array.mem_of_getElem? c
        have a : (([25] : List TypeId).all fun u => !Tryz.prog.wantsStandIn u) = true := by kernel_rfl
        exact(show Tryz.prog.wantsStandIn t = false by simpa using List.all_eq_true.1 a t i)⟩)
    (by kernel_rfl)

end Go.Proofs.YtbdogaaooeoccaaGreatDoor.Unlike
namespace Go.Proofs.YtbdogaaooeoccaaGreatDoor
theorem autoUnlike_holds: Rows.AutoUnlikeCardSaid := Unlike.card
#print axioms autoUnlike_holds
end Go.Proofs.YtbdogaaooeoccaaGreatDoor
