/-
  Of lists of one to ten tokens, up to three for each, one behind the other, as deep as the numbers say: the states, their kernels, their items and where they lead are those that the reference finds, or both say that they are too many; of any other numbers: true. For every Os that has started, every world that the claim's own premises allow and every two numbers.
-/
import Derived.ChangeSlices
import Derived.Deep.Matrix
import Derived.Test.YtbdogaaooeoccaaGreatDoorCards
import Derived.Test.YtbdogaaooeoccaaGreatDoorTie
import Derived.OpenShut
import Derived.ShutString
import Derived.ChangeOld
import Derived.Below
import Derived.SevenTiedAt
import Derived.Test.YtbdogaaooeoccaaGreatDoorOthLists
set_option maxHeartbeats 16000000
set_option maxRecDepth 100000
namespace Go.Proofs.YtbdogaaooeoccaaGreatDoor
open Go.RowKit
def ua1 (S:Sp) (x:It) (L:List It):List It:=match ahd S x with
 | none=>L
 | some z=>(rlo S z).foldl (fun L k=>if k=0 then L else xp L (k,0)) L
def clN (S:Sp) (K:List It):Nat->List It
 | 0=>K
 | f+1=>(clN S K f).foldl (fun A x=>ua1 S x A) (clN S K f)
def uai (S:Sp) (L:List It):Bool:=L.all fun x=>match ahd S x with
 | none=>true
 | some z=>(rlo S z).all fun k=>k == 0 || L.contains (k,0)
def uan:List It->Bool
 | []=>true
 | x :: l=>(match l with | []=>true | y :: _=>decide (ltI x y)) && uan l
theorem uay:∀{l:List It},uan l=true->Sor l
 | [],_=>List.Pairwise.nil
 | [x],_=>List.pairwise_singleton _ _
 | x :: y :: l,h=>by
  unfold uan at h;rw[Bool.and_eq_true,decide_eq_true_eq]at h;have a:=uay h.2;refine List.pairwise_cons.2 ⟨fun z b=>?_,a⟩
  rcases List.mem_cons.1 b with rfl | e
  ·exact h.1
  ·exact qpu h.1 ((List.pairwise_cons.1 a).1 z e)
def Gw (S:Sp) (K A B:List It):Prop:=Sor A->(∀x∈A,InC S K x)->Sor B/\(∀x∈B,InC S K x)/\∀x∈A,x∈B
theorem Gw.refl(S:Sp)(K A:List It):Gw S K A A:=fun a b=>⟨a,b,fun _ h=>h⟩
theorem Gw.trans{S:Sp}{K A B C:List It}(h:Gw S K A B)(k:Gw S K B C):Gw S K A C:=fun g i=>by
 obtain⟨a,b,c⟩:=h g i;obtain⟨d,e,f⟩:=k a b;exact⟨d,e,fun x j=>f x (c x j)⟩
theorem ubl{S:Sp}{K:List It}{x:It}(q:InC S K x)(L:List It):Gw S K L (ua1 S x L):=by
 unfold ua1
 cases m:ahd S x with
 | none=>exact Gw.refl _ _ _
 | some z =>
  have:∀(l:List Nat) (L:List It),(∀k∈l,∃r,S.rs[k]?=some r/\r.l=(z:Int))->Gw S K L (l.foldl (fun L k=>if k=0 then L else xp L (k,0)) L):=fun l=>by
   induction l with
   | nil=>intro L _;exact Gw.refl _ _ _
   | cons k l ih =>
    intro L g;rw[List.foldl_cons];refine Gw.trans ?_ (ih _ (fun j n=>g j (List.mem_cons_of_mem _ n)))
    by_cases f:k=0
    ·rw[if_pos f];exact Gw.refl _ _ _
    ·rw[if_neg f];intro h i;obtain⟨a,b⟩:=uak h (k,0);obtain⟨r,p,c⟩:=g k List.mem_cons_self;refine⟨a,fun y d=>?_,fun y d=>(b y).2 (.inr d)⟩
     rcases (b y).1 d with rfl | e
     ·exact InC.step x k r z q m (by omega) p c
     ·exact i y e
  exact this _ L (fun k o=>qe4.1 o)
theorem ua5(S:Sp)(K:List It)(i:Sor K):∀f,Sor (clN S K f)/\(∀x∈clN S K f,InC S K x)/\∀x∈K,x∈clN S K f
 | 0=>⟨i,fun _ h=>InC.mem h,fun _ h=>h⟩
 | f+1=>by
  obtain⟨a,b,c⟩:=ua5 S K i f
  have:∀(l A:List It),(∀x∈l,InC S K x)->Gw S K A (l.foldl (fun A x=>ua1 S x A) A):=fun l=>by
   induction l with
   | nil=>intro A _;exact Gw.refl _ _ _
   | cons y l ih =>
    intro A k;rw[List.foldl_cons];exact Gw.trans (ubl (k y List.mem_cons_self) A) (ih _ (fun j m=>k j (List.mem_cons_of_mem _ m)))
  obtain⟨d,e,g⟩:=this (clN S K f) (clN S K f) b a b;exact⟨d,e,fun x n=>g x (c x n)⟩
theorem ua6{S:Sp}{K:List It}(j:Sor K){f:Nat}(h:uai S (clN S K f)=true):vq S K (clN S K f):=by
 obtain⟨a,b,c⟩:=ua5 S K j f;refine qrv a b c (fun y i r z n k o m l=>?_);unfold uai at h;have d:=List.all_eq_true.1 h y n;rw[k]at d;have g:=List.all_eq_true.1 d i (qe4.2 ⟨r,m,l⟩);rw[Bool.or_eq_true,beq_iff_eq]at g
 rcases g with e | e
 ·omega
 ·exact List.contains_iff_mem.1 e
def auC (S:Sp) (f n:Nat):Nat->Option (List (List It) × List Int)
 | 0=>some ([[(0,0)]],[])
 | t+1=>match auC S f n t with
  | none=>none
  | some (ks,g) =>
   if n * ks.length<=t then some (ks,g) else
    if (uai S (clN S ((ks[t / n]?).getD []) f) && uan ((ks[t / n]?).getD []))=true then
     let k:=nxt S (clN S ((ks[t / n]?).getD []) f) (t % n)
     if k=[] then some (ks,g++[-1]) else
      match fndK ks k with
      | some j=>some (ks,g++[(j:Int)])
      | none=>if 120<=ks.length then none else some (ks++[k],g++[(ks.length:Int)])
    else none
theorem ua7{S:Sp}{C:List It->List It}(d:CloF S C)(f n:Nat):∀(t:Nat) (r:List (List It) × List Int),auC S f n t=some r->au S C n t=some r
 | 0,r,h=>h
 | t+1,r,h=>by
  unfold auC at h;unfold au
  cases c:auC S f n t with
  | none=>rw[c]at h;cases h
  | some p =>
   obtain⟨a,g⟩:=p;rw[c]at h;rw[ua7 d f n t _ c];simp only at h ⊢
   by_cases hd:n * a.length<=t
   ·rw[if_pos hd]at h ⊢;exact h
   ·rw[if_neg hd]at h ⊢
    by_cases b:(uai S (clN S ((a[t / n]?).getD []) f) && uan ((a[t / n]?).getD []))=true
    ·rw[if_pos b]at h;rw[Bool.and_eq_true]at b;rw[d _ _ (ua6 (uay b.2) b.1)]
     by_cases k:nxt S (clN S ((a[t / n]?).getD []) f) (t % n)=[]
     ·rw[if_pos k]at h ⊢;exact h
     ·rw[if_neg k]at h ⊢
      cases i:fndK a (nxt S (clN S ((a[t / n]?).getD []) f) (t % n)) with
      | some j=>rw[i]at h;exact h
      | none =>
       rw[i]at h;simp only at h ⊢
       by_cases l:120<=a.length
       ·rw[if_pos l]at h;cases h
       ·rw[if_neg l]at h ⊢;exact h
    ·rw[if_neg b]at h;cases h
theorem ua8{S:Sp}{K L a:List It}(h:vq S K L)(k:vq S K a):L=a:=qm3 h.1 k.1 (fun x=>(h.2 x).trans (k.2 x).symm)
def ksS:List (List It):=[[(0,0)],[(3,1)],[(0,1),(1,1),(2,1)],[(1,2)],[(2,2)],[(1,1),(1,3),(2,1)],[(1,1),(2,1),(2,3)]]
def gS:List Int:=[1,-1,-1,-1,2,-1,-1,-1,-1,-1,-1,3,4,-1,-1,1,-1,-1,-1,5,1,-1,-1,-1,6,-1,3,4,-1,-1,-1,3,4,-1,-1]
theorem uao:vk (spG q9) 5 ksS gS:=fun C a=>⟨35,ua7 a 3 5 35 _ (by rw[x8];kernel_rfl),by decide⟩
theorem ubg:vq (spG q9) [(0,0)] [(0,0),(1,0),(2,0),(3,0)]:=by
 have h:=ua6 (S:=spG q9) (K:=[(0,0)]) (List.pairwise_singleton _ _) (f:=3) (by rw[x8];kernel_rfl)
 have e:clN (spG q9) [(0,0)] 3=[(0,0),(1,0),(2,0),(3,0)]:=by rw[x8];kernel_rfl
 rw[e]at h;exact h
theorem uac:gAt 5 7 gS 0 0=1/\gAt 5 7 gS 0 4=2/\gAt 5 7 gS 0 1=-1/\gAt 5 7 gS 2 1=3:=⟨by kernel_rfl,by kernel_rfl,by kernel_rfl,by kernel_rfl⟩
theorem ubm{w j:World}{e:Ending}(h:BO w (spG q9) 5 e j):∃b f i a c,e=.returned (.tuple #[.pointer (some ⟨b,0,none⟩),.int .i64 0])/\AM w.heap.size j b f i a c/\OA (spG q9) 5 a c gS (a.length * 5+0)/\Below w.heap.size w j/\a.length=7/\(∃s,a[0]?=some s/\s.K.length=1/\s.L.length=4)/\∃s,a[2]?=some s:=by
 rcases h with ⟨-,h,-⟩ | ⟨b,f,i,a,c,g,h1,h2,h3,h4⟩
 ·exact(uaf uao h).elim
 ·obtain⟨k,o⟩:=uax h3.fin uao;subst o
  have q:a.length=7:=by
   have:=congrArg List.length k;rw[List.length_map]at this;exact this
  refine⟨b,f,i,a,c,h1,h2,h3,h4,q,?_,⟨_,List.getElem?_eq_getElem (by omega)⟩⟩
  obtain⟨s,d⟩:∃s,a[0]?=some s:=⟨_,List.getElem?_eq_getElem (by omega)⟩
  have n:s.K=[(0,0)]:=by
   have:=congrArg (fun l=>l[0]?) k;simp only[List.getElem?_map,d]at this;exact Option.some.inj this
  have m:=(h3.cs s (List.mem_of_getElem? d)).1;rw[n]at m;have p:=ua8 m ubg;exact⟨s,d,by rw[n];rfl,by rw[p];rfl⟩
theorem uap(w:World)(a:Pow w):Calls Tryz.prog 19 #[] w fun e d=>e=.returned (.bool true)/\Below w.heap.size w d:=by
 have b:=hid (qt9 w a);clear a;go_enter Tryz.func19,Tryz.ntmps19;go_wp2_with fail;refine b.out.mono ?_;rintro e V ⟨rfl,c⟩;go_wp2_with fail;go_ret;exact⟨rfl,c⟩
theorem uaq(w:World)(hp:Pow w):Calls Tryz.prog 8 #[] w fun e a=>e=.returned (.bool true)/\Below w.heap.size w a:=by
 have HP:=hid hp;clear hp
 have I:Hid (∀V:World,Calls Tryz.prog 18 #[] V fun e a=>∃A B b d,e=.returned (.agg #[.slice A 3 B,.string ⟨#[]⟩,.int .i64 0,.slice b 3 d])/\(∃qs,OwnG a V.heap.size ⟨A,B,b,d⟩ q9 qs)/\Below V.heap.size V a):=fun V=>(qdi V).mono fun e a ⟨⟨A,B,b,d⟩,qs,h1,h2,h3⟩=>⟨A,B,b,d,h1,⟨qs,h2⟩,h3⟩
 go_enter Tryz.func8,Tryz.ntmps8;go_wp2_with fail;refine(I.out _).mono ?_;rintro e V1 ⟨A,B,a1,a2,rfl,Y,J⟩
 have HC:Hid (Calls Tryz.prog 9 #[.agg #[.slice A 3 B,.string ⟨#[]⟩,.int .i64 0,.slice a1 3 a2]] V1 fun e a=>∃na nc k l h j b d,e=.returned (.tuple #[.agg #[.int .i64 3,.int .i64 1,.int .i64 4,.int .i64 0,.slice na 5 nc,.slice k 3 l,.slice h 3 j,.slice b 4 d],.int .i64 0])/\IsSp a ⟨na,nc,k,l,h,j,b,d⟩ (spG q9)/\Below V1.heap.size V1 a):=by
  obtain⟨qs,ho⟩:=Y;exact qjj V1 ⟨A,B,a1,a2⟩ (ho.isG qap)
 have C:=hid J;clear Y J I;go_wp2_with fail;refine HC.out.mono ?_;rintro e y ⟨na,nc,k,l,h,j,b,d,rfl,hs,K⟩;have hv:Below y.heap.size y (y.alloc (.cells #[.int .i64 3,.int .i64 1,.int .i64 4,.int .i64 0,.slice na 5 nc,.slice k 3 l,.slice h 3 j,.slice b 4 d] 31)):=qb _ _;have hx:(y.alloc (.cells #[.int .i64 3,.int .i64 1,.int .i64 4,.int .i64 0,.slice na 5 nc,.slice k 3 l,.slice h 3 j,.slice b 4 d] 31)).heap[y.heap.size]?=some (.cells #[.int .i64 3,.int .i64 1,.int .i64 4,.int .i64 0,.slice na 5 nc,.slice k 3 l,.slice h 3 j,.slice b 4 d] 31 (0,0)):=heap_alloc_new _ _;have f:=hid3 (hs.below hv) hx (qd (qd C.out K) hv);clear hs hv hx K HC C
 go_upto_region 2 with fail
 generalize y.alloc (.cells #[.int .i64 3,.int .i64 1,.int .i64 4,.int .i64 0,.slice na 5 nc,.slice k 3 l,.slice h 3 j,.slice b 4 d] 31)=m at f ⊢;generalize y.heap.size=t at f ⊢
 have k0:m.cell? ⟨t,0,none⟩=some (.int .i64 3):=by rw[qe f.out.2.1];rfl
 have k1:m.cell? ⟨t,1,none⟩=some (.int .i64 1):=by rw[qe f.out.2.1];rfl
 have k2:m.cell? ⟨t,2,none⟩=some (.int .i64 4):=by rw[qe f.out.2.1];rfl
 have k3:m.cell? ⟨t,3,none⟩=some (.int .i64 0):=by rw[qe f.out.2.1];rfl
 have k4:m.cell? ⟨t,4,none⟩=some (.slice na 5 nc):=by rw[qe f.out.2.1];rfl
 have k5:m.cell? ⟨t,5,none⟩=some (.slice k 3 l):=by rw[qe f.out.2.1];rfl
 have k6:m.cell? ⟨t,6,none⟩=some (.slice h 3 j):=by rw[qe f.out.2.1];rfl
 have k7:m.cell? ⟨t,7,none⟩=some (.slice b 4 d):=by rw[qe f.out.2.1];rfl
 have HN:Hid (Calls Tryz.prog 16 #[.agg #[.int .i64 3,.int .i64 1,.int .i64 4,.int .i64 0,.slice na 5 nc,.slice k 3 l,.slice h 3 j,.slice b 4 d]] m fun e a=>BO m (spG q9) 5 e a):=by
  have X:=quy qhw;rw[qt8]at X;have hc:=qul m ⟨na,nc,k,l,h,j,b,d⟩ (spG q9) 5 X f.out.1
  have e1:sv ⟨na,nc,k,l,h,j,b,d⟩ (spG q9)=.agg #[.int .i64 3,.int .i64 1,.int .i64 4,.int .i64 0,.slice na 5 nc,.slice k 3 l,.slice h 3 j,.slice b 4 d]:=by
   unfold sv sC;rw[x8];rfl
  rw[e1]at hc;exact hc
 go_wp2_with fail;refine HN.out.mono ?_;intro e V4 S;obtain⟨ab,sa,sc,ss,ld,rfl,M,Z,L,z,⟨s0,n,T,U⟩,⟨s2,a0⟩⟩:=ubm S;clear k0 k1 k2 k3 k4 k5 k6 k7 HN S;have H4:=hid (qd f.out.2.2 L)
 have u:Hid (∀V,Below V4.heap.size V4 V->(Calls Tryz.prog 12 #[.pointer (some ⟨ab,0,none⟩)] V fun e a=>e=.returned (.int .i64 7)/\a=V)/\(Calls Tryz.prog 14 #[.pointer (some ⟨ab,0,none⟩),.int .i64 0] V fun e a=>∃g c,e=.returned (.slice (some ⟨g,0,none⟩) 4 c)/\Below V.heap.size V a)/\(Calls Tryz.prog 13 #[.pointer (some ⟨ab,0,none⟩),.int .i64 0] V fun e a=>∃g c,e=.returned (.slice (some ⟨g,0,none⟩) 1 c)/\Below V.heap.size V a)/\∀(i:Nat) (x r:Int),(i=0\/i=2)->(0<=x/\x<=4)->gAt 5 7 gS i x=r->Calls Tryz.prog 15 #[.pointer (some ⟨ab,0,none⟩),.int .i64 (i:Int),.int .i64 x] V fun e a=>e=.returned (.int .i64 r)/\Below V.heap.size V a):=fun V hV=>by
  have hA:=M.below hV;refine⟨?_,?_,?_,fun i x r hi hx hr=>?_⟩
  ·have:=qp4 hA;rw[z]at this;exact this
  ·refine(qu4 hA n (by omega) (by omega)).mono ?_;rintro e a ⟨g,c,rfl,-,hb⟩;rw[U];exact⟨g,c,rfl,hb⟩
  ·refine(qu2 hA n (by omega) (by omega)).mono ?_;rintro e a ⟨g,c,rfl,-,hb⟩;rw[T];exact⟨g,c,rfl,hb⟩
  ·obtain⟨s,hs⟩:∃s,ss[i]?=some s:=by
    rcases hi with rfl | rfl
    ·exact⟨_,n⟩
    ·exact⟨_,a0⟩
   have:=qu8 hA Z hs x (by omega);rw[z,hr]at this;exact this
 have a3:=hid (HP.out.below H4.out);clear M Z L z n T U a0 f;go_wp2_with fail;refine(uap V4 a3.out).mono ?_;rintro e V5 ⟨rfl,N⟩;have v:=hid N;clear N;go_wp2_with fail;refine((u.out V5 v.out).1).mono ?_;rintro e a6 ⟨rfl,rfl⟩;go_wp2_with fail;refine((u.out _ v.out).2.1).mono ?_;rintro e V6 ⟨g6,c6,rfl,O⟩;have E:=hid (qd v.out O);clear O;go_wp2_with fail;refine((u.out _ E.out).2.2.1).mono ?_;rintro e V7 ⟨g7,c7,rfl,P⟩;have F:=hid (qd E.out P);clear P;go_wp2_with fail;refine((u.out _ F.out).2.2.2 0 0 1 (.inl rfl) (by decide) uac.1).mono ?_;rintro e V8 ⟨rfl,Q⟩;have G:=hid (qd F.out Q);clear Q;go_wp2_with fail;refine((u.out _ G.out).2.2.2 0 4 2 (.inl rfl) (by decide) uac.2.1).mono ?_;rintro e V9 ⟨rfl,R⟩;have H:=hid (qd G.out R);clear R;go_wp2_with fail;refine((u.out _ H.out).2.2.2 0 1 (-1) (.inl rfl) (by decide) uac.2.2.1).mono ?_;rintro e a4 ⟨rfl,p⟩;have o:=hid (qd H.out p);clear p;go_wp2_with fail;refine((u.out _ o.out).2.2.2 2 1 3 (.inr rfl) (by decide) uac.2.2.2).mono ?_;rintro e a5 ⟨rfl,q⟩;have D:=hid (qd o.out q);clear q;go_wp2_with fail;go_ret;exact⟨rfl,H4.out.trans (D.out.mono H4.out.size)⟩
theorem ubw{G:Gm}{k:Int}(b:OfR G k)(a:k=0):∃n,NSp (spK G k) n:=by
 unfold spK;rw[if_pos a];subst a;exact⟨_,quy b⟩
theorem ubn(a b c d:Nat):decide (ltI (a,b) (c,d))=(decide ((a:Int)<(c:Int)) || (decide ((a:Int)=(c:Int)) && decide ((b:Int)<(d:Int)))):=by
 unfold ltI;simp only[Int.ofNat_lt,Int.ofNat_inj,Bool.decide_or,Bool.decide_and]
theorem ua2(x y:It)(W:World):Calls Tryz.prog 61 #[.agg #[.int .i64 (x.1:Int),.int .i64 (x.2:Int)],.agg #[.int .i64 (y.1:Int),.int .i64 (y.2:Int)]] W fun e B=>e=.returned (.bool (decide (ltI x y)))/\Below W.heap.size W B:=by
 obtain⟨a,b⟩:=x;obtain⟨c,d⟩:=y;simp only;have k:((W.alloc (.cells #[.int .i64 (a:Int),.int .i64 (b:Int)] 54)).alloc (.cells #[.int .i64 (c:Int),.int .i64 (d:Int)] 54)).heap[W.heap.size]?=some (.cells #[.int .i64 (a:Int),.int .i64 (b:Int)] 54 (0,0)):=qf (qb _ _) (heap_alloc_new _ _)
 have l:((W.alloc (.cells #[.int .i64 (a:Int),.int .i64 (b:Int)] 54)).alloc (.cells #[.int .i64 (c:Int),.int .i64 (d:Int)] 54)).heap[W.heap.size+1]?=some (.cells #[.int .i64 (c:Int),.int .i64 (d:Int)] 54 (0,0)):=by
  have:=heap_alloc_new (W.alloc (.cells #[.int .i64 (a:Int),.int .i64 (b:Int)] 54)) (.cells #[.int .i64 (c:Int),.int .i64 (d:Int)] 54);rw[qz]at this;exact this
 have j:Hid (Below W.heap.size W ((W.alloc (.cells #[.int .i64 (a:Int),.int .i64 (b:Int)] 54)).alloc (.cells #[.int .i64 (c:Int),.int .i64 (d:Int)] 54))):=qd (qb _ _) (qb _ _);have m:=hid (ubn a b c d);generalize decide (ltI (a,b) (c,d))=r at m ⊢;go_enter Tryz.func61,Tryz.ntmps61
 go_upto_region 1 with fail
 generalize (W.alloc (.cells #[.int .i64 (a:Int),.int .i64 (b:Int)] 54)).alloc (.cells #[.int .i64 (c:Int),.int .i64 (d:Int)] 54)=C at j k l ⊢;generalize W.heap.size=D at k l;have u:=(qlj (x:=(a,b)) k).1;have v:=(qlj (x:=(a,b)) k).2;have z:=(qlj (x:=(c,d)) l).1;have A:=(qlj (x:=(c,d)) l).2;simp only at u v z A;clear k l
 by_cases g:(a:Int)<(c:Int)
 ·have f:Hid (r=true):=by show _=_;rw[m.out,decide_eq_true g];rfl
  have n:decide ((a:Int)<(c:Int))=true:=decide_eq_true g;have o:decide (a<c)=true:=decide_eq_true (by omega);clear g;go_wp2_with fail;go_ret;exact⟨by rw[f.out];rfl,j.out⟩
 ·have n:decide ((a:Int)<(c:Int))=false:=decide_eq_false g;have o:decide (a<c)=false:=decide_eq_false (by omega)
  by_cases h:(a:Int)=(c:Int)
  ·have s:((a:Int) == (c:Int))=true:=by rw[beq_iff_eq];exact h
   have t:(a == c)=true:=by rw[beq_iff_eq];omega
   have f:Hid (r=decide ((b:Int)<(d:Int))):=by show _=_;rw[m.out,n,decide_eq_true h];rfl
   clear g h
   by_cases i:(b:Int)<(d:Int)
   ·rw[decide_eq_true i]at f;have p:decide ((b:Int)<(d:Int))=true:=decide_eq_true i;have q:decide (b<d)=true:=decide_eq_true (by omega);clear i;go_wp2_with fail;go_ret;exact⟨by rw[f.out];rfl,j.out⟩
   ·rw[decide_eq_false i]at f;have p:decide ((b:Int)<(d:Int))=false:=decide_eq_false i;have q:decide (b<d)=false:=decide_eq_false (by omega);clear i;go_wp2_with fail;go_ret;exact⟨by rw[f.out];rfl,j.out⟩
  ·have s:((a:Int) == (c:Int))=false:=by rw[beq_eq_false_iff_ne];exact h
   have t:(a == c)=false:=by rw[beq_eq_false_iff_ne];omega
   have f:Hid (r=false):=by show _=_;rw[m.out,n,decide_eq_false h];rfl
   clear g h;go_wp2_with fail;go_ret;exact⟨by rw[f.out];rfl,j.out⟩
theorem tk9{P:Program}{b:Array Oper}{Q:Exit->Act->World->Prop}{j:Region.Mode}{S:World->Prop}{d:Oper}{f:Nat}{l:Array Bool}{a:Act}{w:World}(i:Nat)(v:Value)(m:b[i]?=some d)(k:S w)(n:∀w,S w->(execOp a.eval d).run P w=.ok (.value v) w)(h:wpAnyH P j b Q S f (l.setIfInBounds i true) (a.put d.dst v) w)(g:(Region.noSelect b && (Region.free j b l i && (Region.ready j b l).contains i))=true:=by kernel_rfl)(h2:Region.wanted d (yielded b a.tmps)=true:=by rfl)(h3:∀c a w,Q (.panic c) (a.put d.dst v) w->Q (.panic c) a w:=by exact fun _ _ _ h=>h):wpAnyH P j b Q S (f+1) l a w:=by
 rw[Bool.and_eq_true,Bool.and_eq_true]at g;exact wpAnyH_take m g.1 g.2.1 g.2.2 h3 (.inl ⟨h2,n⟩) k h
theorem rd9{P:Program}{b:Array Oper}{Q:Exit->Act->World->Prop}{c:Region.Mode}{S:World->Prop}{o:Oper}{f:Nat}{l:Array Bool}{a:Act}{w:World}(i:Nat)(d:b[i]?=some o)(h:∀K:Act->World->Prop,Shut (∀a w,S w->(S w->wpAnyH P c b Q S f (l.setIfInBounds i true) a w)->K a w)->if Region.wanted o (yielded b a.tmps)=true then Oper.wp P o a w K Q else K (a.put o.dst undef) w)(g:Region.ready c b l=[i]:=by kernel_rfl):wpAnyH P c b Q S (f+1) l a w:=wpAnyH_ready g (by simp) (.cons d h .nil)
theorem uar{W:World}{B n nc m i:Nat}{na f:Option Addr}{l us:List It}(h:W.ownsRow B 54 2 (.slice na n nc) n (itC l))(o:B<=W.heap.size)(b:ItR W f m i us)(t:n+m<1000000):
  ∃d c a,(Builtin.append_ #[46,46] 46 #[.slice na n nc,.slice f m i]).run Tryz.prog W=.ok (.slice d (n+m) c) a/\a.ownsRow B 54 2 (.slice d (n+m) c) (n+m) (itC (l++us))/\Kept (fun j=>blk na=some j) W a:=by
 by_cases s:0<m
 ·obtain⟨g,c,a,v,u,q,x⟩:=qki u46 i54 rfl (by decide) (by decide) (qti us) h o b t s;exact⟨_,c,a,v,by rw[qth];exact u,q⟩
 ·have k:m=0:=by omega
  subst k;have r:=yz b;have:us=[]:=List.length_eq_zero_iff.1 r;subst this;obtain⟨y,p,-⟩:=info_parts i54;exact⟨na,nc,W,qss u46 p (zq h).1,by rw[List.append_nil];exact h,Kept.refl _ _⟩
theorem uas:∀(l:List It) (i:Nat),(itC l).drop (i * 2)=itC (l.drop i)
 | [],i=>by simp[itC]
 | x :: l,0=>rfl
 | x :: l,i+1=>by
  have a:(i+1) * 2=i * 2+1+1:=by omega
  rw[a,qle,List.drop_succ_cons,List.drop_succ_cons,uas l i,List.drop_succ_cons]
theorem ubo{w:World}{b o n a:Nat}{l:List It}(h:ItR w (some ⟨b,o,none⟩) n a l)(i:Nat)(k:i<=n):ItR w (some ⟨b,o+i * 2,none⟩) (n - i) (a - i) (l.drop i):=by
 have d:=yz h;have f:=h.le;have g:=h.max;refine⟨by rw[qbx,List.length_drop,d],by omega,by omega,.inr ⟨b,o+i * 2,rfl,fun j u c=>?_⟩⟩
 rcases h.lies with ⟨h3,-⟩ | ⟨b',o',e,hc⟩
 ·cases h3
 ·injection e with e
  injection e with e1 e2
  subst e1 e2;rw[<-uas,List.getElem?_drop]at c;rw[Nat.add_assoc];exact hc _ u c
def yr (w w':World) (la:Option Addr) (ln lc:Nat) (l:List It) (v:Value) (n':Nat) (l':List It):Prop:=∀B,B<=w.heap.size->w.ownsRow B 54 2 (.slice la ln lc) ln (itC l)->w'.ownsRow B 54 2 v n' (itC l')
theorem ubp{V:World}{l:List It}{lb p b m:Nat}(h:ItR V (some ⟨lb,p,none⟩) b m l){k:Nat}(G:k<=b)(Y:b<=2000)(x:It)(D:Option Addr)(d:D=(if m=k then some ⟨lb,p,none⟩ else some ⟨lb,p+k * 2,none⟩)):
  ∃z q c g r f t s o,(Builtin.append_ #[46,46] 46 #[.slice none 0 0,.slice (some ⟨lb,p,none⟩) k m]).run Tryz.prog V=.ok (.slice z k q) c /\
   (Builtin.append_ #[46,46] 46 #[.slice z k q,.slice (some ⟨c.heap.size,0,none⟩) 1 1]).run Tryz.prog (c.drew.alloc (.cells #[.int .i64 (x.1:Int),.int .i64 (x.2:Int)] 54))=.ok (.slice (some ⟨g,0,none⟩) (k+1) r) f /\
   (Builtin.append_ #[46,46] 46 #[.slice (some ⟨g,0,none⟩) (k+1) r,.slice D (b - k) (m - k)]).run Tryz.prog f=.ok (.slice (some ⟨t,0,none⟩) (b+1) s) o /\
   Below V.heap.size V c.drew/\Below V.heap.size V f/\Below V.heap.size V o/\o.ownsRow V.heap.size 54 2 (.slice (some ⟨t,0,none⟩) (b+1) s) (b+1) (itC (l.take k++x :: l.drop k)):=by
 obtain⟨z,q,c,I,C,Q⟩:=uar (W:=V) (B:=V.heap.size) (n:=0) (nc:=0) (na:=none) (l:=[]) (World.ownsRow_nil _ _ _ _) (Nat.le_refl _) (ubk h k G) (by omega);rw[Nat.zero_add]at I C;rw[List.nil_append]at C;have L:Below V.heap.size V c:=Q.below (Nat.le_refl _) (fun _ _ e=>by cases e);have i:=qd L (qo c);obtain⟨g,r,f,R,H,Z,M,-⟩:=qsd (W:=c.drew) (B:=V.heap.size) (zl C (qo c)) i.size (by omega) x;have a:Below V.heap.size V f:=i.trans M
 have hd:ItR f D (b - k) (m - k) (l.drop k):=by
  by_cases e:m=k
  ·rw[if_pos e]at d;have T:=h.le;have U:=yz h
   have A:b - k=0:=by omega
   have F:m - k=0:=by omega
   subst d;rw[A,F,List.drop_eq_nil_of_le (by omega)];exact⟨rfl,Nat.le_refl _,Nat.zero_le _,.inr ⟨lb,p,rfl,fun j u P=>by cases P⟩⟩
  ·rw[if_neg e]at d;subst d;exact ubo (h.below a) k G
 obtain⟨E,s,o,J,y,K⟩:=uar (W:=f) (B:=V.heap.size) H a.size hd (by omega)
 have O:k+1+(b - k)=b+1:=by omega
 rw[O]at J y;obtain⟨S,c1,e,-,-,v⟩:=zo y
 injection e with A F e3
 subst A
 obtain⟨t,rfl⟩:∃g,E=some ⟨g,0,none⟩:=by
  rcases v with ⟨-,v,-⟩ | v
  ·omega
  ·exact v
 have N:Below V.heap.size V o:=a.trans (K.below a.size (fun j X e=>by have:=(qw H e).1;omega))
 rw[List.append_assoc]at y;exact⟨z,q,c,g,r,f,t,s,o,I,R,J,i,a,N,y⟩
theorem ubh(w:World)(l:List It)(lb n i m:Nat)(x:It)(h:ItR w (some ⟨lb,n,none⟩) i m l)(b9:i<=2000):
  Calls Tryz.prog 43 #[.slice (some ⟨lb,n,none⟩) i m,.agg #[.int .i64 (x.1:Int),.int .i64 (x.2:Int)]] w fun e s=>∃b o n' c',e=.returned (.slice (some ⟨b,o,none⟩) n' c')/\ItR s (some ⟨b,o,none⟩) n' c' (xp l x)/\Below w.heap.size w s/\yr w s (some ⟨lb,n,none⟩) i m l (.slice (some ⟨b,o,none⟩) n' c') n' (xp l x):=by
 obtain⟨a,d⟩:=x;simp only;have ql:=zk h;have v:=hid (yz h);have R:Below w.heap.size w (w.alloc (.cells #[.int .i64 (a:Int),.int .i64 (d:Int)] 54)):=qb _ _;have X:(w.alloc (.cells #[.int .i64 (a:Int),.int .i64 (d:Int)] 54)).heap[w.heap.size]?=some (.cells #[.int .i64 (a:Int),.int .i64 (d:Int)] 54 (0,0)):=heap_alloc_new _ _;have HR:=hid (h.below R)
 have b0:Hid (∀(V:World) (y:It),Calls Tryz.prog 61 #[.agg #[.int .i64 (y.1:Int),.int .i64 (y.2:Int)],.agg #[.int .i64 (a:Int),.int .i64 (d:Int)]] V fun e s=>e=.returned (.bool (decide (ltI y (a,d))))/\Below V.heap.size V s):=fun V y=>ua2 y (a,d) V
 clear h;go_enter Tryz.func43,Tryz.ntmps43
 go_upto_region 1 with fail
 generalize w.alloc (.cells #[.int .i64 (a:Int),.int .i64 (d:Int)] 54)=r at R X HR ⊢
 obtain⟨p,b1⟩:∃p,Hid (p=w.heap.size):=⟨_,rfl⟩
 rw[<-b1.out]at X ⊢
 have u:Hid (∀V,Below r.heap.size r V->V.cell? ⟨p,0,none⟩=some (.int .i64 (a:Int))/\V.cell? ⟨p,1,none⟩=some (.int .i64 (d:Int))):=fun V hV=>qlj (x:=(a,d)) (qf hV X)
 have N:=hid R;clear R X
 go_upto_block 0 with fail
 go_cut [5] (fun s5 wd=>∃k:Nat,s5=.int .i64 (k:Int)/\k<=i/\Hid (k=pat l (a,d))/\Hid (Below r.heap.size r wd))
 case first =>
  go_wp2_with fail
  go_loopg [5] i (fun kx s5 wr=>∃k:Nat,s5=.int .i64 (k:Int)/\k<=i/\i - k<=kx/\Hid (Below r.heap.size r wr/\∀j y,j<k->l[j]?=some y->ltI y (a,d)))
  case atStart=>exact⟨0,rfl,Nat.zero_le _,by omega,(⟨Below.refl _ _,fun j y h=>absurd h (Nat.not_lt_zero _)⟩:Below r.heap.size r r/\∀j y,j<0->l[j]?=some y->ltI y (a,d))⟩
  case round =>
   obtain⟨k,rfl,hk,hg,J⟩:=hrel
   by_cases T:k<i
   ·have E:(k:Int)<(i:Int):=by omega
    obtain⟨y,A⟩:∃y,l[k]?=some y:=⟨l[k]'(by rw[v.out];exact T),List.getElem?_eq_getElem _⟩
    have HC:Hid (∀V,Below wr.heap.size wr V->V.cell? ⟨lb,n+k * 2,none⟩=some (.int .i64 (y.1:Int))/\V.cell? ⟨lb,n+k * 2+1,none⟩=some (.int .i64 (y.2:Int))/\V.cell? ⟨p,0,none⟩=some (.int .i64 (a:Int))/\V.cell? ⟨p,1,none⟩=some (.int .i64 (d:Int))):=fun V hV=>by
     have t:=qd J.out.1 hV;obtain⟨b,o,e,c1,c2⟩:=qe5 (HR.out.below t) A
     injection e with e
     injection e with C I
     subst C I;obtain⟨k0,k1⟩:=u.out V t;exact⟨c1,c2,k0,k1⟩
    have F:=hid2 A J.out;obtain⟨L,M⟩:=y;simp only at HC
    obtain⟨rr,a1⟩:∃rr,Hid (decide (ltI (L,M) (a,d))=rr):=⟨_,rfl⟩
    have a9:Hid (∀V:World,Calls Tryz.prog 61 #[.agg #[.int .i64 (L:Int),.int .i64 (M:Int)],.agg #[.int .i64 (a:Int),.int .i64 (d:Int)]] V fun e s=>e=.returned (.bool rr)/\Below V.heap.size V s):=fun V=>by
     have:=b0.out V (L,M);rw[a1.out]at this;exact this
    clear J A
    go_upto_region 2 with fail
    go_region_held (fun s=>s.cell? ⟨lb,n+k * 2,none⟩=some (.int .i64 (L:Int))/\s.cell? ⟨lb,n+k * 2+1,none⟩=some (.int .i64 (M:Int))/\s.cell? ⟨p,0,none⟩=some (.int .i64 (a:Int))/\s.cell? ⟨p,1,none⟩=some (.int .i64 (d:Int))) (first | exact HC.out _ (qo _) | exact HC.out _ a0.out) (first
     | (go_at_call 61;refine(a9.out _).mono ?_;rintro e V ⟨rfl,b5⟩;have a0:Hid (Below wr.heap.size wr V):=qd (qo _) b5))
    cases rr
    ·have O:Hid (k=pat l (a,d)):=(uaj (fun j z hj Z=>F.out.2.2 j z hj Z) (fun z Z=>by rw[F.out.1]at Z;cases Z;exact of_decide_eq_false a1.out) (by rw[v.out];exact hk)).symm
     have HF:Hid (Below r.heap.size r V):=qd F.out.2.1 a0.out;go_wp2_with fail;go_meet;exact⟨k,rfl,hk,O,HF⟩
    ·have HF:Hid (Below r.heap.size r V/\∀j z,j<k+1->l[j]?=some z->ltI z (a,d)):=⟨qd F.out.2.1 a0.out,fun j z hj Z=>by
      rcases Nat.lt_or_ge j k with e | e
      ·exact F.out.2.2 j z e Z
      ·have e:j=k:=by omega
       subst e;rw[F.out.1]at Z
       cases Z
       exact of_decide_eq_true a1.out⟩
     go_wp2_with fail;go_roundg (i - (k+1))
     case measure=>omega
     case rel=>exact⟨k+1,by simp,T,Nat.le_refl _,HF⟩
   ·have E:¬(k:Int)<(i:Int):=by omega
    have he:k=i:=by omega
    have O:Hid (k=pat l (a,d)):=(uaj (fun j y hj A=>J.out.2 j y hj A) (fun y A=>by rw[List.getElem?_eq_none (by rw[v.out];omega)]at A;cases A) (by rw[v.out];exact hk)).symm
    have HJ:Hid (∀nq c,Below r.heap.size r (onto wr nq c)):=fun nq c=>qd J.out.1 (ke wr nq c)
    clear J he
    go_upto_region 2 with fail
    refine zn (by kernel_rfl) ?_
    repeat (go_big_quiet_step (fail))
    refine wpQuiet_nil ?_;intro _ a6;obtain⟨⟨nq,c⟩,a5⟩:=a6;subst a5;simp only;go_wp2_with fail;go_meet;exact⟨k,rfl,hk,O,HJ.out nq c⟩
 case rest =>
  obtain⟨k,rfl,hk,O,HJ⟩:=hcut
  obtain⟨G,d0⟩:∃G,G=wc:=⟨_,rfl⟩
  subst wc
  have P:Hid (∀nq c sa,sa=(if m=k then some ⟨lb,n,none⟩ else some ⟨lb,n+k * 2,none⟩)->∃va c6 H g c7 W7 g8 c8 Q,(Builtin.append_ #[46,46] 46 #[.slice none 0 0,.slice (some ⟨lb,n,none⟩) k m]).run Tryz.prog (onto G nq c)=.ok (.slice va k c6) H /\
   (Builtin.append_ #[46,46] 46 #[.slice va k c6,.slice (some ⟨H.heap.size,0,none⟩) 1 1]).run Tryz.prog (H.drew.alloc (.cells #[.int .i64 (a:Int),.int .i64 (d:Int)] 54))=.ok (.slice (some ⟨g,0,none⟩) (k+1) c7) W7 /\
   (Builtin.append_ #[46,46] 46 #[.slice (some ⟨g,0,none⟩) (k+1) c7,.slice sa (i - k) (m - k)]).run Tryz.prog W7=.ok (.slice (some ⟨g8,0,none⟩) (i+1) c8) Q /\
   (H.drew.cell? ⟨p,0,none⟩=some (.int .i64 (a:Int))/\H.drew.cell? ⟨p,1,none⟩=some (.int .i64 (d:Int)))/\((H.drew.alloc (.cells #[.int .i64 (a:Int),.int .i64 (d:Int)] 54)).cell? ⟨p,0,none⟩=some (.int .i64 (a:Int))/\(H.drew.alloc (.cells #[.int .i64 (a:Int),.int .i64 (d:Int)] 54)).cell? ⟨p,1,none⟩=some (.int .i64 (d:Int)))/\(W7.cell? ⟨p,0,none⟩=some (.int .i64 (a:Int))/\W7.cell? ⟨p,1,none⟩=some (.int .i64 (d:Int)))/\(Q.cell? ⟨p,0,none⟩=some (.int .i64 (a:Int))/\Q.cell? ⟨p,1,none⟩=some (.int .i64 (d:Int))) /\
   (l[pat l (a,d)]?≠some (a,d)->Hid (ItR Q (some ⟨g8,0,none⟩) (i+1) c8 (xp l (a,d))/\Below w.heap.size w Q/\yr w Q (some ⟨lb,n,none⟩) i m l (.slice (some ⟨g8,0,none⟩) (i+1) c8) (i+1) (xp l (a,d))))):=fun nq c sa c4=>by
   have t:=qd HJ.out (ke G nq c);obtain⟨va,c6,H,g,c7,W7,g8,c8,Q,r6,r7,r8,b6,b7,b8,i8⟩:=ubp (HR.out.below t) hk b9 (a,d) sa c4;refine⟨va,c6,H,g,c7,W7,g8,c8,Q,r6,r7,r8,u.out _ (qd t b6),u.out _ (qd t (qd b6 (qb _ _))),u.out _ (qd t b7),u.out _ (qd t b8),fun c3=>?_⟩
   have hp:xp l (a,d)=l.take k++(a,d) :: l.drop k:=by unfold xp;rw[if_neg c3,<-O.out]
   rw[hp];exact⟨j2 i8,qd N.out (qd t b8),fun B b4 _=>zc i8 (Nat.le_trans b4 (qd N.out t).size)⟩
  obtain⟨k0,k1⟩:=u.out G HJ.out;have g0:=zi k0;have g1:=zi k1;clear k0 k1
  go_upto_region 4 with fail
  go_cut [5,44] (fun s5 s44 wd=>s5=.int .i64 (k:Int)/\∃b:Bool,s44=.bool b/\Hid (b=true↔l[pat l (a,d)]?=some (a,d))/\∃nq c,wd=onto G nq c)
  case first =>
   by_cases T:k<i
   focus
    have E:(k:Int)<(i:Int):=by omega
    obtain⟨y,A⟩:∃y,l[k]?=some y:=⟨l[k]'(by rw[v.out];exact T),List.getElem?_eq_getElem _⟩
    obtain⟨b,o,e,c1,c2⟩:=qe5 (HR.out.below HJ.out) A
    injection e with e
    injection e with C I
    subst C I;obtain⟨L,M⟩:=y;simp only at c1 c2;have g2:=zi c1;have g3:=zi c2;have F:=hid A;clear c1 c2 A
    by_cases C:L=a
    focus
     have f1:((L:Int) == (a:Int))=true:=by rw[beq_iff_eq];omega
     have b2:decide (L=a)=true:=decide_eq_true C
     by_cases I:M=d
     focus
      have f2:((M:Int) == (d:Int))=true:=by rw[beq_iff_eq];omega
      have b3:decide (M=d)=true:=decide_eq_true I
      have HE:Hid (l[pat l (a,d)]?=some (a,d)):=by show _=_;rw[<-O.out,F.out,C,I]
      clear C I
     rotate_left
     focus
      have f2:((M:Int) == (d:Int))=false:=by rw[beq_eq_false_iff_ne];omega
      have b3:decide (M=d)=false:=decide_eq_false I
      have HE:Hid (l[pat l (a,d)]?≠some (a,d)):=fun e=>by rw[<-O.out,F.out]at e;cases e;exact absurd rfl I
      clear C I
    rotate_left 2
    focus
     have f1:((L:Int) == (a:Int))=false:=by rw[beq_eq_false_iff_ne];omega
     have b2:decide (L=a)=false:=decide_eq_false C
     have HE:Hid (l[pat l (a,d)]?≠some (a,d)):=fun e=>by rw[<-O.out,F.out]at e;cases e;exact absurd rfl C
     clear C
   rotate_left 3
   focus
    have E:¬(k:Int)<(i:Int):=by omega
    have HE:Hid (l[pat l (a,d)]?≠some (a,d)):=fun e=>by rw[<-O.out,List.getElem?_eq_none (by rw[v.out];omega)]at e;cases e
   all_goals
    clear P;refine zn (by kernel_rfl) ?_
    repeat (go_big_quiet_step (fail))
    refine wpQuiet_nil ?_;intro _ a6;obtain⟨⟨nq,c⟩,a5⟩:=a6;subst a5;simp only;go_wp2_with fail;go_meet
    first
     | exact⟨rfl,true,rfl,⟨fun _=>HE.out,fun _=>rfl⟩,nq,c,rfl⟩
     | exact⟨rfl,false,rfl,⟨fun h=>(by cases h),fun e=>absurd e HE.out⟩,nq,c,rfl⟩
  case rest =>
   clear g0 g1;obtain⟨rfl,b,rfl,HB,nq,c,c5⟩:=hcut;subst c5
   cases b
   ·obtain⟨va,c6,H,g,c7,W7,g8,c8,Q,r6,r7,r8,⟨q0,q1⟩,⟨p0,p1⟩,⟨p2,p3⟩,⟨p4,p5⟩,Y⟩:=P.out nq c _ rfl
    obtain⟨sl,U⟩:∃sl,Value.slice (if m=k then some ⟨lb,n,none⟩ else some ⟨lb,n+k * 2,none⟩) (i - k) (m - k)=sl:=⟨_,rfl⟩
    rw[U]at r8
    have a7:Hid ((m=k->sl=.slice (some ⟨lb,n,none⟩) 0 0)/\(¬m=k->sl=.slice (some ⟨lb,n+k * 2,none⟩) (i - k) (m - k))):=⟨fun e=>by rw[<-U,if_pos e,show i - k=0 by omega,show m - k=0 by omega],fun e=>by rw[<-U,if_neg e]⟩
    clear U;have HF:=Y (fun e=>by cases HB.out.2 e);clear Y P;go_wp2_with(at_builtin;refine Lib.wpList_append_run _ rfl _ _ _ _ rfl _ _ rfl rfl _ _ r6 ?_)
    refine wp_region_held_drew (S:=fun s=>s.cell? ⟨p,0,none⟩=some (.int .i64 (a:Int))/\s.cell? ⟨p,1,none⟩=some (.int .i64 (d:Int))) (by kernel_rfl) ⟨q0,q1⟩ (fun f=>?_);refine tk9 0 (.slice va k c6) rfl f (fun w9 q=>?_) ?_
    ·(obtain⟨a3,a4⟩:=q;go_simp)
    simp only[Act.put];refine tk9 1 (.agg #[.int .i64 (a:Int),.int .i64 (d:Int)]) rfl f (fun w9 q=>?_) ?_
    ·(obtain⟨a3,a4⟩:=q;go_simp)
    simp only[Act.put];refine tk9 4 (.slice (some ⟨lb,n,none⟩) i m) rfl f (fun w9 q=>?_) ?_
    ·(obtain⟨a3,a4⟩:=q;go_simp)
    simp only[Act.put];refine tk9 5 (.int .i64 (k:Int)) rfl f (fun w9 q=>?_) ?_
    ·(obtain⟨a3,a4⟩:=q;go_simp)
    simp only[Act.put];refine tk9 6 sl rfl f (fun w9 q=>?_) ?_
    ·by_cases a2:m=k
     ·rw[a7.out.1 a2]
      have a8:m - k=0:=by omega
      have c9:i - k=0:=by omega
      go_simp
     ·rw[a7.out.2 a2];have a8:¬m=k:=a2
      go_simp
    simp only[Act.put];refine rd9 2 rfl (fun K D=>?_)
    go_simp
    refine D.out _ _ ⟨p0,p1⟩ (fun f=>?_);clear D K;refine rd9 3 rfl (fun K D=>?_);refine zb rfl (.tmp 50) (.tmp 52) rfl rfl (by simp[Act.eval]) (by simp[Act.eval]) r7 (D.out _ _ ⟨p2,p3⟩ (fun f=>?_));simp only[Act.put];clear D K;refine rd9 7 rfl (fun K D=>?_);refine zb rfl (.tmp 53) (.tmp 56) rfl rfl (by simp[Act.eval]) (by simp[Act.eval]) r8 (D.out _ _ ⟨p4,p5⟩ (fun f=>?_));simp only[Act.put];clear D K;refine rd9 8 rfl (fun K D=>?_)
    go_simp
    refine D.out _ _ ⟨p4,p5⟩ (fun f=>?_);clear D K;refine wpAnyH_done (by kernel_rfl) ?_ _;go_wp2_with fail;go_ret;exact⟨_,_,_,_,rfl,HF.out⟩
   ·have HF:Hid (ItR (onto G nq c) (some ⟨lb,n,none⟩) i m (xp l (a,d))/\Below w.heap.size w (onto G nq c)/\yr w (onto G nq c) (some ⟨lb,n,none⟩) i m l (.slice (some ⟨lb,n,none⟩) i m) i (xp l (a,d))):=by
     have t:=qd HJ.out (ke G nq c)
     have hp:xp l (a,d)=l:=by unfold xp;rw[if_pos (HB.out.1 rfl)]
     rw[hp];exact⟨HR.out.below t,qd N.out t,fun B _ h=>zl h (qd N.out t)⟩
    clear P;go_wp2_with fail;go_ret;exact⟨_,_,_,_,rfl,HF.out⟩
theorem ubi(w:World)(x:It):
  Calls Tryz.prog 43 #[.slice none 0 0,.agg #[.int .i64 (x.1:Int),.int .i64 (x.2:Int)]] w fun e C=>∃b o H M,e=.returned (.slice (some ⟨b,o,none⟩) H M)/\ItR C (some ⟨b,o,none⟩) H M [x]/\Below w.heap.size w C/\yr w C none 0 0 [] (.slice (some ⟨b,o,none⟩) H M) H [x]:=by
 obtain⟨a,d⟩:=x;simp only;have u:Below w.heap.size w (w.alloc (.cells #[.int .i64 (a:Int),.int .i64 (d:Int)] 54)):=qb _ _;have n:(w.alloc (.cells #[.int .i64 (a:Int),.int .i64 (d:Int)] 54)).heap[w.heap.size]?=some (.cells #[.int .i64 (a:Int),.int .i64 (d:Int)] 54 (0,0)):=heap_alloc_new _ _;go_enter Tryz.func43,Tryz.ntmps43
 go_upto_region 1 with fail
 generalize w.alloc (.cells #[.int .i64 (a:Int),.int .i64 (d:Int)] 54)=j at u n ⊢
 obtain⟨A,L⟩:∃A,Hid (A=w.heap.size):=⟨_,rfl⟩
 rw[<-L.out]at n ⊢
 have r:Hid (∀V,Below j.heap.size j V->V.cell? ⟨A,0,none⟩=some (.int .i64 (a:Int))/\V.cell? ⟨A,1,none⟩=some (.int .i64 (d:Int))):=fun V Z=>qlj (x:=(a,d)) (qf Z n)
 have D:=hid u;clear u n;go_wp2_with fail
 go_loopg [5] 0 (fun kx s5 wr=>s5=.int .i64 0/\Hid (Below j.heap.size j wr))
 case atStart=>exact⟨rfl,(Below.refl _ _:Below j.heap.size j j)⟩
 case round =>
  obtain⟨rfl,J⟩:=hrel
  have T:Hid (∀nq h,Below j.heap.size j (onto wr nq h)):=fun nq h=>qd J.out (ke wr nq h)
  clear J
  go_upto_region 2 with fail
  refine zn (by kernel_rfl) ?_
  repeat (go_big_quiet_step (fail))
  refine wpQuiet_nil ?_;intro _ y;obtain⟨⟨nq,h⟩,v⟩:=y;subst v;simp only;have s:=hid (T.out nq h);clear T;generalize onto wr nq h=U at s ⊢
  go_upto_region 4 with fail
  refine zn (by kernel_rfl) ?_
  repeat (go_big_quiet_step (fail))
  refine wpQuiet_nil ?_;intro _ y;obtain⟨⟨E,p⟩,v⟩:=y;subst v;simp only;have q:=hid (qd s.out (ke U E p));clear s;generalize onto U E p=k at q ⊢
  have r6:(Builtin.append_ #[46,46] 46 #[.slice none 0 0,.slice none 0 0]).run Tryz.prog k=.ok (.slice none 0 0) k:=by
   obtain⟨i0,O,-⟩:=info_parts i54;exact qss u46 O (Nat.le_refl _)
  obtain⟨g,G,z,R,F,-,X,-⟩:=@qsd k.drew k.heap.size 0 0 none [] (World.ownsRow_nil _ _ _ _) (Nat.le_refl _) (by omega) (a,d);rw[Nat.zero_add,List.nil_append]at F;rw[Nat.zero_add]at R
  have r8:(Builtin.append_ #[46,46] 46 #[.slice (some ⟨g,0,none⟩) 1 G,.slice none 0 0]).run Tryz.prog z=.ok (.slice (some ⟨g,0,none⟩) 1 G) z:=by
   obtain⟨i0,O,-⟩:=info_parts i54;exact qss u46 O (zq F).1
  have t:Below k.heap.size k z:=(qo k).trans X;obtain⟨q0,q1⟩:=r.out _ (qd q.out (qo k));obtain⟨p0,p1⟩:=r.out _ (qd (qd q.out (qo k)) (qb _ (.cells #[.int .i64 (a:Int),.int .i64 (d:Int)] 54)));obtain⟨P,Q⟩:=r.out _ (qd q.out t)
  have Y:Hid (ItR z (some ⟨g,0,none⟩) 1 G [(a,d)]/\Below w.heap.size w z/\yr w z none 0 0 [] (.slice (some ⟨g,0,none⟩) 1 G) 1 [(a,d)]):=⟨j2 F,qd D.out (qd q.out t),fun B N _=>zc F (Nat.le_trans N (qd D.out q.out).size)⟩
  clear F X t q;simp only at R;go_wp2_with(at_builtin;refine Lib.wpList_append_run _ rfl _ _ _ _ rfl _ _ rfl rfl _ _ r6 ?_)
  refine wp_region_held_drew (S:=fun C=>C.cell? ⟨A,0,none⟩=some (.int .i64 (a:Int))/\C.cell? ⟨A,1,none⟩=some (.int .i64 (d:Int))) (by kernel_rfl) ⟨q0,q1⟩ (fun c=>?_);refine tk9 0 (.slice none 0 0) rfl c (fun I f=>?_) ?_
  ·(obtain⟨l,m⟩:=f;go_simp)
  simp only[Act.put];refine tk9 1 (.agg #[.int .i64 (a:Int),.int .i64 (d:Int)]) rfl c (fun I f=>?_) ?_
  ·(obtain⟨l,m⟩:=f;go_simp)
  simp only[Act.put];refine tk9 4 (.slice none 0 0) rfl c (fun I f=>?_) ?_
  ·(obtain⟨l,m⟩:=f;go_simp)
  simp only[Act.put];refine tk9 5 (.int .i64 0) rfl c (fun I f=>?_) ?_
  ·(obtain⟨l,m⟩:=f;go_simp)
  simp only[Act.put];refine tk9 6 (.slice none 0 0) rfl c (fun I f=>?_) ?_
  ·(obtain⟨l,m⟩:=f;go_simp)
  simp only[Act.put];refine rd9 2 rfl (fun K i=>?_)
  go_simp
  refine i.out _ _ ⟨p0,p1⟩ (fun c=>?_);clear i K;refine rd9 3 rfl (fun K i=>?_);refine zb rfl (.tmp 50) (.tmp 52) rfl rfl (by simp[Act.eval]) (by simp[Act.eval]) R (i.out _ _ ⟨P,Q⟩ (fun c=>?_));simp only[Act.put];clear i K;refine rd9 7 rfl (fun K i=>?_);refine zb rfl (.tmp 53) (.tmp 56) rfl rfl (by simp[Act.eval]) (by simp[Act.eval]) r8 (i.out _ _ ⟨P,Q⟩ (fun c=>?_));simp only[Act.put];clear i K;refine rd9 8 rfl (fun K i=>?_)
  go_simp
  refine i.out _ _ ⟨P,Q⟩ (fun c=>?_);clear i K;refine wpAnyH_done (by kernel_rfl) ?_ _;go_wp2_with fail;go_ret;exact⟨_,_,_,_,rfl,Y.out⟩
theorem uag(w:World)(l:List It)(g:Option Addr)(a c:Nat)(x:It)(h:ItR w g a c l)(j:a<=2000):
  Calls Tryz.prog 43 #[.slice g a c,.agg #[.int .i64 (x.1:Int),.int .i64 (x.2:Int)]] w fun e i=>∃b o d f,e=.returned (.slice (some ⟨b,o,none⟩) d f)/\ItR i (some ⟨b,o,none⟩) d f (xp l x)/\Below w.heap.size w i/\yr w i g a c l (.slice (some ⟨b,o,none⟩) d f) d (xp l x):=by
 rcases h.lies with ⟨rfl,rfl,rfl⟩ | ⟨b,o,rfl,-⟩
 ·have e:l=[]:=List.length_eq_zero_iff.1 (yz h);subst e;exact ubi w x
 ·exact ubh w l b o a c x h j
theorem ubq{S:Sp}{n:Nat}{L:List It}(a:NSp S n)(h:Sor L)(b:∀x∈L,OkI S x):L.length<=840:=qe3 h b a.nr a.ln
theorem sc9(h:SHd)(S:Sp):sC h S=#[.int .i64 (S.tk:Int),.int .i64 (S.nt:Int),.int .i64 (S.st:Int),.int .i64 S.ex,.slice h.na S.nm.length h.nc,.slice h.la S.lv.length h.lc,.slice h.aa S.az.length h.ac,.slice h.ra S.rs.length h.rc]:=rfl
theorem ua9(w:World)(h:SHd)(S:Sp)(n:Nat)(hs:NSp S n)(a9:IsSp w h S)(L:List It)(la:Option Addr)(A lc:Nat)(hL:ItR w la A lc L)(a8:Sor L)(a7:∀x∈L,OkI S x)(z:Nat)(hz:z<n):
  Calls Tryz.prog 41 #[sv h S,.slice la A lc,.int .i64 (z:Int)] w fun e j=>∃a m u,e=.returned (.slice a m u)/\j.ownsRow w.heap.size 54 2 (.slice a m u) m (itC (nxt S L z))/\Below w.heap.size w j:=by
 have a4:Below w.heap.size w (w.alloc (.cells (sC h S) 31)):=qb _ _;have a0:(w.alloc (.cells (sC h S) 31)).heap[w.heap.size]?=some (.cells (sC h S) 31 (0,0)):=heap_alloc_new _ _;have qr:=vn a9.rl;have ql:=zk hL;have a5:=yz hL
 have d5:A<=840:=by rw[<-a5];exact ubq hs a8 a7
 have hn:=hs.nr;have I:=hid4 hs a9 hL a8;have a3:=hid2 a7 a5;clear hs a9 hL a8 a7 a5;unfold sv;rw[sc9];go_enter Tryz.func41,Tryz.ntmps41
 go_upto_region 1 with fail
 rw[<-sc9 h S];generalize w.alloc (.cells (sC h S) 31)=t at a4 a0 ⊢
 obtain⟨b1,c4⟩:∃b1,Hid (b1=w.heap.size):=⟨_,rfl⟩
 rw[<-c4.out]at a0 ⊢
 have Q:Hid (Below w.heap.size w t/\t.heap[b1]?=some (.cells (sC h S) 31 (0,0))):=⟨a4,a0⟩
 clear a4 a0;go_wp2_with fail
 go_loopg [7,8] A (fun kx s7 s8 wr=>∃(M:Option Addr) (q N k:Nat),s7=.slice M q N/\s8=.int .i64 (k:Int)/\k<=A/\q<=840/\A - k<=kx/\Hid (Below t.heap.size t wr/\wr.ownsRow w.heap.size 54 2 (.slice M q N) q (itC (nxt S (L.take k) z))))
 case atStart=>exact⟨none,0,0,0,rfl,rfl,Nat.zero_le _,by omega,by omega,(⟨Below.refl _ _,by rw[List.take_zero];exact World.ownsRow_nil _ _ _ _⟩:Below t.heap.size t t/\t.ownsRow w.heap.size 54 2 (.slice none 0 0) 0 (itC (nxt S (L.take 0) z)))⟩
 case round =>
  obtain⟨M,q,N,k,rfl,rfl,hk,b7,hg,J⟩:=hrel
  by_cases Z:k<A
  ·have b6:(k:Int)<(A:Int):=by omega
   obtain⟨x,hx⟩:∃x,L[k]?=some x:=⟨L[k]'(by rw[a3.out.2];exact Z),List.getElem?_eq_getElem _⟩
   obtain⟨a,d⟩:=x;obtain⟨r,v,b8⟩:=a3.out.1 (a,d) (List.mem_of_getElem? hx);simp only at v b8;have d6:=(List.getElem?_eq_some_iff.1 v).1;have hw:=qd Q.out.1 J.out.1;obtain⟨lb,H,d0,y0,y1⟩:=qe5 (I.out.2.2.1.below hw) hx;subst d0;simp only at y0 y1;obtain⟨g,C,O,P,b9,t0,t1,t2,t3,E⟩:=(I.out.2.1.below hw).rl.at v;obtain⟨-,-,-,-,-,-,-,c7⟩:=sbox (qf J.out.1 Q.out.2);rw[b9]at c7
   have HC:Hid (∀V,Below wr.heap.size wr V->V.cell? ⟨b1,7,none⟩=some (.slice (some ⟨g,C,none⟩) S.rs.length h.rc)/\V.cell? ⟨lb,H+k * 2,none⟩=some (.int .i64 (a:Int))/\V.cell? ⟨lb,H+k * 2+1,none⟩=some (.int .i64 (d:Int))/\V.cell? ⟨g,C+a * 4,none⟩=some (.int .i64 r.l)/\V.cell? ⟨g,C+a * 4+1,none⟩=some (.slice O r.r.length P)/\V.cell? ⟨g,C+a * 4+2,none⟩=some (.int .i64 r.lv)/\V.cell? ⟨g,C+a * 4+3,none⟩=some (.int .i64 r.a)):=fun V p=>⟨qt p c7,qt p y0,qt p y1,qt p t0,qt p t1,qt p t2,qt p t3⟩
   have c6:Hid (∀V,Below wr.heap.size wr V->Row V 1 O r.r.length P (natC r.r)):=fun V p=>E.below p
   have qx:=zk E;have s:=hid4 hx v b8 J.out;have d9:r.r.length<=20:=I.out.1.ln r (List.mem_of_getElem? v);have p0:=HC.out wr.drew (qo wr);have p1:=HC.out (wr.drew.alloc (.cells #[.int .i64 r.l,.slice O r.r.length P,.int .i64 r.lv,.int .i64 r.a] 56)) (qd (qo wr) (qb _ _));have p2:=HC.out (wr.drew.alloc (.cells #[.int .i64 0,.slice none 0 0,.int .i64 0,.int .i64 0] 56)) (qd (qo wr) (qb _ _));clear hw c7 y0 y1 t0 t1 t2 t3 E b9 J hx v
   go_upto_region 5 with fail
   refine wp_region_held_drew (S:=fun j=>j.cell? ⟨b1,7,none⟩=some (.slice (some ⟨g,C,none⟩) S.rs.length h.rc)/\j.cell? ⟨lb,H+k * 2,none⟩=some (.int .i64 (a:Int))/\j.cell? ⟨lb,H+k * 2+1,none⟩=some (.int .i64 (d:Int))/\j.cell? ⟨g,C+a * 4,none⟩=some (.int .i64 r.l)/\j.cell? ⟨g,C+a * 4+1,none⟩=some (.slice O r.r.length P)/\j.cell? ⟨g,C+a * 4+2,none⟩=some (.int .i64 r.lv)/\j.cell? ⟨g,C+a * 4+3,none⟩=some (.int .i64 r.a)) (by kernel_rfl) p0 (fun c=>?_);refine tk9 0 (.pointer (some ⟨b1,7,none⟩)) rfl c (fun w9 f=>?_) ?_
   ·(obtain⟨s0,s1,s2,s3,s4,s5,s6⟩:=f;go_simp)
   simp only[Act.put];refine tk9 1 (.slice (some ⟨g,C,none⟩) S.rs.length h.rc) rfl c (fun w9 f=>?_) ?_
   ·(obtain⟨s0,s1,s2,s3,s4,s5,s6⟩:=f;go_simp)
   simp only[Act.put];refine tk9 2 (.slice (some ⟨lb,H,none⟩) A lc) rfl c (fun w9 f=>?_) ?_
   ·(obtain⟨s0,s1,s2,s3,s4,s5,s6⟩:=f;go_simp)
   simp only[Act.put];refine tk9 3 (.int .i64 (k:Int)) rfl c (fun w9 f=>?_) ?_
   ·(obtain⟨s0,s1,s2,s3,s4,s5,s6⟩:=f;go_simp)
   simp only[Act.put];refine tk9 4 (.pointer (some ⟨lb,H+k * 2,none⟩)) rfl c (fun w9 f=>?_) ?_
   ·(obtain⟨s0,s1,s2,s3,s4,s5,s6⟩:=f;go_simp)
   simp only[Act.put];refine tk9 5 (.pointer (some ⟨lb,H+k * 2,none⟩)) rfl c (fun w9 f=>?_) ?_
   ·(obtain⟨s0,s1,s2,s3,s4,s5,s6⟩:=f;go_simp)
   simp only[Act.put];refine tk9 6 (.int .i64 (a:Int)) rfl c (fun w9 f=>?_) ?_
   ·(obtain⟨s0,s1,s2,s3,s4,s5,s6⟩:=f;go_simp)
   simp only[Act.put];refine tk9 7 (.pointer (some ⟨g,C+a * 4,none⟩)) rfl c (fun w9 f=>?_) ?_
   ·(obtain⟨s0,s1,s2,s3,s4,s5,s6⟩:=f;go_simp)
   simp only[Act.put];refine tk9 8 (.agg #[.int .i64 r.l,.slice O r.r.length P,.int .i64 r.lv,.int .i64 r.a]) rfl c (fun w9 f=>?_) ?_
   ·(obtain⟨s0,s1,s2,s3,s4,s5,s6⟩:=f;go_simp)
   simp only[Act.put];refine rd9 9 rfl (fun K hK=>?_)
   go_simp
   refine hK.out _ _ p2 (fun c=>?_);clear hK K;refine rd9 10 rfl (fun K hK=>?_)
   go_simp
   refine hK.out _ _ p1 (fun c=>?_);clear hK K;refine wpAnyH_done (by kernel_rfl) ?_ _;have U:Below wr.heap.size wr (wr.alloc (.cells #[.int .i64 r.l,.slice O r.r.length P,.int .i64 r.lv,.int .i64 r.a] 56)).drew:=qd (qb _ _) (qo _);have D:(wr.alloc (.cells #[.int .i64 r.l,.slice O r.r.length P,.int .i64 r.lv,.int .i64 r.a] 56)).drew.heap[wr.heap.size]?=some (.cells #[.int .i64 r.l,.slice O r.r.length P,.int .i64 r.lv,.int .i64 r.a] 56 (0,0)):=qf (qo _) (heap_alloc_new wr _);clear p0 p1 p2
   go_upto_region 6 with fail
   generalize (wr.alloc (.cells #[.int .i64 r.l,.slice O r.r.length P,.int .i64 r.lv,.int .i64 r.a] 56)).drew=B at U D ⊢
   obtain⟨tb,c8⟩:∃tb,Hid (tb=wr.heap.size):=⟨_,rfl⟩
   try simp only[World.drew_size]
   rw[<-c8.out]at D ⊢;have T:=hid2 U D;obtain⟨-,c1,c2,-⟩:=HC.out B U
   have c3:B.cell? ⟨tb,1,none⟩=some (.slice O r.r.length P):=by rw[qe D];rfl
   have g1:=zi c1;have g2:=zi c2;have g3:=zi c3;clear U D c1 c2 c3
   by_cases Y:d<r.r.length
   ·have f1:decide ((d:Int)<(r.r.length:Int))=true:=decide_eq_true (by omega);have c9:decide (d<r.r.length)=true:=decide_eq_true Y;have hy:r.r[d]?=some r.r[d]:=List.getElem?_eq_getElem Y;generalize r.r[d]=y at hy
    have X:ahd S (a,d)=some y:=by unfold ahd;simp only;rw[s.out.2.1];exact hy
    obtain⟨yb,yo,d3,cy⟩:=yd (c6.out B T.out.1) hy;subst d3;have g4:=zi cy;clear cy
    by_cases a1:y=z
    ·subst a1;have b0:=hid X
     have f2:((y:Int) == (y:Int))=true:=by simp
     clear hy X;refine zn (by kernel_rfl) ?_
     repeat (go_big_quiet_step (fail))
     refine wpQuiet_nil ?_;intro _ G;obtain⟨⟨nq,i⟩,F⟩:=G;subst F;simp only
     have a2:Hid (∀V,Below wr.heap.size wr V->Calls Tryz.prog 43 #[.slice M q N,.agg #[.int .i64 (a:Int),.int .i64 (IntKind.i64.wrap ((d:Int)+1))]] V fun e j=>∃b o m u,e=.returned (.slice (some ⟨b,o,none⟩) m u)/\j.ownsRow w.heap.size 54 2 (.slice (some ⟨b,o,none⟩) m u) m (itC (nxt S (L.take (k+1)) y))/\m<=840/\m<=u/\u<=9223372036854775807/\Below V.heap.size V j):=fun V p=>by
      have e5:((d+1:Nat):Int)=(d:Int)+1:=by omega
      have:=uag V (nxt S (L.take k) y) M q N (a,d+1) ((j2 s.out.2.2.2.2).below p) (by omega);simp only at this;rw[e5]at this
      have ew:IntKind.i64.wrap ((d:Int)+1)=(d:Int)+1:=by rw[IntKind.wrap_i64];omega
      rw[ew];refine this.mono ?_;rintro e j ⟨b,o,m,u,rfl,h1,h2,d2⟩;rw[uaa I.out.2.2.2 s.out.1 y,if_pos b0.out]
      have h3:ItR j (some ⟨b,o,none⟩) m u (nxt S (L.take (k+1)) y):=by
       rw[uaa I.out.2.2.2 s.out.1 y,if_pos b0.out];exact h1
      have b5:=qm6 (S:=S) (List.Pairwise.sublist (List.take_sublist (k+1) _) I.out.2.2.2:Sor (L.take (k+1))) y;refine⟨b,o,m,u,rfl,d2 _ (qd (qd Q.out.1 s.out.2.2.2.1) p).size (zl s.out.2.2.2.2 p),?_,(zk h1).1,(zk h1).2,h2⟩;rw[<-yz h3];exact qe3 b5.so b5.ok I.out.1.nr I.out.1.ln
     have R:Hid (Below wr.heap.size wr (onto B nq i)):=qd T.out.1 (ke B nq i);clear g1 g2 g3 g4;generalize onto B nq i=V2 at R ⊢
     have b3:Hid (∀V,Below V2.heap.size V2 V->V.cell? ⟨lb,H+k * 2,none⟩=some (.int .i64 (a:Int))/\V.cell? ⟨lb,H+k * 2+1,none⟩=some (.int .i64 (d:Int))):=fun V p=>by
      obtain⟨-,c1,c2,-⟩:=HC.out V (qd R.out p);exact⟨c1,c2⟩
     go_upto_region 7 with fail
     go_region_held (fun j=>j.cell? ⟨lb,H+k * 2,none⟩=some (.int .i64 (a:Int))/\j.cell? ⟨lb,H+k * 2+1,none⟩=some (.int .i64 (d:Int))) (first | exact b3.out _ (qo _) | exact b3.out _ b2.out) (first
      | (go_at_call 43;refine(a2.out _ (qd R.out (qo _))).mono ?_;clear a2;rintro e V ⟨b,o,m,u,rfl,hi,d1,d8,d7,b4⟩;have b2:Hid (Below V2.heap.size V2 V):=qd (qo _) b4;have c5:=hid hi;clear hi b4))
     all_goals
      have HF:Hid (Below t.heap.size t V/\V.ownsRow w.heap.size 54 2 (.slice (some ⟨b,o,none⟩) m u) m (itC (nxt S (L.take (k+1)) y))):=⟨qd s.out.2.2.2.1 (qd R.out b2.out),c5.out⟩
      go_wp2_with fail;go_roundg (A - (k+1))
      case measure=>omega
      case rel=>exact⟨some ⟨b,o,none⟩,m,u,k+1,rfl,by simp,Z,d1,Nat.le_refl _,HF⟩
    ·have f2:((y:Int) == (z:Int))=false:=by rw[beq_eq_false_iff_ne];omega
     have d4:decide (y=z)=false:=decide_eq_false a1
     have a6:Hid (ahd S (a,d)≠some z):=fun e=>by rw[X]at e;injection e with e;exact a1 e
     clear hy X a1;refine zn (by kernel_rfl) ?_
     repeat (go_big_quiet_step (fail))
     refine wpQuiet_nil ?_;intro _ G;obtain⟨⟨nq,i⟩,F⟩:=G;subst F;simp only
     have HF:Hid (Below t.heap.size t (onto B nq i)/\(onto B nq i).ownsRow w.heap.size 54 2 (.slice M q N) q (itC (nxt S (L.take (k+1)) z))):=by
      have hb:=qd T.out.1 (ke B nq i);refine⟨qd s.out.2.2.2.1 hb,?_⟩;rw[uaa I.out.2.2.2 s.out.1 z,if_neg a6.out];exact zl s.out.2.2.2.2 hb
     go_wp2_with fail;go_roundg (A - (k+1))
     case measure=>omega
     case rel=>exact⟨M,q,N,k+1,rfl,by simp,Z,b7,Nat.le_refl _,HF⟩
   ·have f1:decide ((d:Int)<(r.r.length:Int))=false:=decide_eq_false (by omega);have c9:decide (d<r.r.length)=false:=decide_eq_false Y
    have a6:Hid (ahd S (a,d)≠some z):=fun e=>by
     obtain⟨r',h1,h2⟩:=qlb e;rw[s.out.2.1]at h1
     cases h1
     have:=(List.getElem?_eq_some_iff.1 h2).1;exact Y this
    refine zn (by kernel_rfl) ?_
    repeat (go_big_quiet_step (fail))
    refine wpQuiet_nil ?_;intro _ G;obtain⟨⟨nq,i⟩,F⟩:=G;subst F;simp only
    have HF:Hid (Below t.heap.size t (onto B nq i)/\(onto B nq i).ownsRow w.heap.size 54 2 (.slice M q N) q (itC (nxt S (L.take (k+1)) z))):=by
     have hb:=qd T.out.1 (ke B nq i);refine⟨qd s.out.2.2.2.1 hb,?_⟩;rw[uaa I.out.2.2.2 s.out.1 z,if_neg a6.out];exact zl s.out.2.2.2.2 hb
    go_wp2_with fail;go_roundg (A - (k+1))
    case measure=>omega
    case rel=>exact⟨M,q,N,k+1,rfl,by simp,Z,b7,Nat.le_refl _,HF⟩
  ·have b6:¬(k:Int)<(A:Int):=by omega
   have HF:Hid (wr.ownsRow w.heap.size 54 2 (.slice M q N) q (itC (nxt S L z))/\Below w.heap.size w wr):=⟨by
    have:=J.out.2;rw[List.take_of_length_le (by rw[a3.out.2];omega)]at this
    exact this,qd Q.out.1 J.out.1⟩
   clear J;go_wp2_with fail;go_ret;exact⟨_,_,_,rfl,HF.out⟩
theorem RI.ok{S:Sp}{n:Nat}{K out:List It}{m i:Nat}(h:RI S K out m i)(b:NSp S n)(c:KerP S K):(∀x∈out,OkI S x)/\out.length<=840:=by
 have a:∀x∈out,OkI S x:=fun x d=>qpv c.ok (h.inc x d)
 exact⟨a,qe3 h.so a b.nr b.ln⟩
def IO (w wr:World) (ka:Option Addr) (kn kc:Nat) (K:List It) (oa:Option Addr) (on oc:Nat) (out:List It):Prop:=ItR wr oa on oc out/\yr w wr ka kn kc K (.slice oa on oc) on out
theorem IO.below{w wr a:World}{c:Option Addr}{f d:Nat}{K:List It}{g:Option Addr}{j i:Nat}{out:List It}(h:IO w wr c f d K g j i out)(b:Below wr.heap.size wr a):IO w a c f d K g j i out :=
 ⟨h.1.below b,fun B k l=>zl (h.2 B k l) b⟩
theorem uah(w:World)(h:SHd)(S:Sp)(n:Nat)(hs:NSp S n)(c6:IsSp w h S)(K:List It)(E:Option Addr)(v F:Nat)(hK:KerP S K)(hk:ItR w E v F K):
  Calls Tryz.prog 30 #[sv h S,.slice E v F] w fun e w'=>∃a m c L,e=.returned (.slice a m c)/\ItR w' a m c L/\vq S K L/\Below w.heap.size w w'/\yr w w' E v F K (.slice a m c) m L:=by
 have a4:Below w.heap.size w (w.alloc (.cells (sC h S) 31)):=qb _ _;have b2:(w.alloc (.cells (sC h S) 31)).heap[w.heap.size]?=some (.cells (sC h S) 31 (0,0)):=heap_alloc_new _ _;have qr:=vn c6.rl;have ql:=zk hk;have hn:=hs.nr;have HX:=hid4 hs c6 hK hk
 have h4:v<=840:=by rw[<-yz hk];exact((ual hK).ok hs hK).2
 have k6:=hs.wf.tk;clear hs c6 hK hk;unfold sv;rw[sc9];go_enter Tryz.func30,Tryz.ntmps30
 go_upto_region 1 with fail
 rw[<-sc9 h S];generalize w.alloc (.cells (sC h S) 31)=t at a4 b2 ⊢
 obtain⟨b1,f7⟩:∃b1,Hid (b1=w.heap.size):=⟨_,rfl⟩
 rw[<-f7.out]at b2 ⊢
 have a1:Hid (Below w.heap.size w t/\t.heap[b1]?=some (.cells (sC h S) 31 (0,0))):=⟨a4,b2⟩
 have d0:Hid (IO w t E v F K E v F K):=⟨HX.out.2.2.2.below a4,fun B I ho=>zl ho a4⟩
 clear a4 b2;go_wp2_with fail
 go_loopg [5,6] 842 (fun kx s5 s6 wr=>∃(A:Option Addr) (f j p:Nat),s5=.slice A f j/\s6=.int .i64 ((p:Int) - 1)/\f<=840/\p<=f+1/\842 - p<=kx/\Hid (Below t.heap.size t wr/\∃out m i,RI S K out m i/\IO w wr E v F K A f j out/\(p≠0->m+1=p/\m<=i)))
 case atStart=>exact⟨E,v,F,0,rfl,rfl,h4,by omega,by omega,(⟨Below.refl _ _,K,0,0,ual HX.out.2.2.1,d0.out,fun h=>absurd rfl h⟩:Below t.heap.size t t/\∃out m i,RI S K out m i/\IO w t E v F K E v F out/\(0≠0->m+1=0/\m<=i))⟩
 case round =>
  clear d0;obtain⟨A,f,j,p,rfl,rfl,d8,hp,hg,J⟩:=hrel
  by_cases k4:p=f+1
  ·have f0:((p:Int) - 1 != (f:Int))=false:=by simp;omega
   have P:Hid (∃L,IO w wr E v F K A f j L/\vq S K L/\Below w.heap.size w wr):=by
    obtain⟨I,out,m,i,ri,M,hm⟩:=J.out;obtain⟨e1,e2⟩:=hm (by omega);exact⟨out,M,ri.done (by rw[yz M.1];omega) e2,qd a1.out.1 I⟩
   clear J;go_wp2_with fail;go_ret;obtain⟨L,h1,h2,h3⟩:=P.out;exact⟨_,_,_,L,rfl,h1.1,h2,h3,h1.2⟩
  ·have f0:((p:Int) - 1 != (f:Int))=true:=by rw[bne_iff_ne];omega
   have HJ:Hid (∃out,RI S K out f 0/\IO w wr E v F K A f j out/\Below t.heap.size t wr):=by
    obtain⟨I,out,m,i,ri,M,hm⟩:=J.out;have:=ri.pass;rw[yz M.1]at this;exact⟨out,this,M,I⟩
   clear J
   obtain⟨m,HM⟩:∃m,Hid (m=f):=⟨_,rfl⟩
   go_wp2_with fail;have i5:f<=840:=d8
   obtain⟨ox,k3⟩:∃ox,ox=f:=⟨_,rfl⟩
   go_loopg [5,7] f (fun L1 s5 s7 wr=>∃(A:Option Addr) (s j i:Nat),s5=.slice A s j/\s7=.int .i64 (i:Int)/\i<=f/\f<=s/\s<=840/\s<=j/\j<=9223372036854775807/\f - i<=L1/\Hid (∃out,RI S K out f i/\IO w wr E v F K A s j out/\Below t.heap.size t wr))
   case atStart =>
    have q:f<=j/\j<=9223372036854775807:=by
     obtain⟨out,-,M,-⟩:=HJ.out;exact zk M.1
    exact⟨A,f,j,0,rfl,rfl,Nat.zero_le _,Nat.le_refl _,d8,q.1,q.2,by omega,HJ⟩
   case round =>
    clear HJ;obtain⟨A,s,j,i,rfl,rfl,M,Z,u,a0,U,i7,J⟩:=hrel
    by_cases b9:i<f
    ·have d6:(i:Int)<(f:Int):=by omega
     obtain⟨out,ri,X,I⟩:=J.out
     obtain⟨⟨a,d⟩,hx⟩:∃x,out[i]?=some x:=⟨out[i]'(by rw[yz X.1];omega),List.getElem?_eq_getElem _⟩
     obtain⟨lb,lo,h5,y0,y1⟩:=qe5 X.1 hx;subst h5;simp only at y0 y1;obtain⟨r,a5,i0⟩:=(ri.ok HX.out.1 HX.out.2.2.1).1 (a,d) (List.mem_of_getElem? hx);simp only at a5 i0;have i6:=(List.getElem?_eq_some_iff.1 a5).1;have hw:=qd a1.out.1 I;obtain⟨i2,ro,xa,xc,f5,t0,t1,t2,t3,b5⟩:=(HX.out.2.1.below hw).rl.at a5;obtain⟨c0,-,-,-,-,-,-,c7⟩:=sbox (qf I a1.out.2);rw[f5]at c7;have D:Below wr.heap.size wr (wr.alloc (.cells #[.int .i64 (a:Int),.int .i64 (d:Int)] 54)):=qb _ _;have a3:(wr.alloc (.cells #[.int .i64 (a:Int),.int .i64 (d:Int)] 54)).heap[wr.heap.size]?=some (.cells #[.int .i64 (a:Int),.int .i64 (d:Int)] 54 (0,0)):=heap_alloc_new _ _;have HI:=hid4 ri hx a5 I;have a2:=hid2 X b5;clear ri hx a5 I X b5 J hw
     go_upto_region 9 with fail
     generalize wr.alloc (.cells #[.int .i64 (a:Int),.int .i64 (d:Int)] 54)=V1 at D a3 ⊢
     obtain⟨xb,g5⟩:∃xb,Hid (xb=wr.heap.size):=⟨_,rfl⟩
     rw[<-g5.out]at a3 ⊢;have k0:=(qlj (x:=(a,d)) a3).1;simp only at k0;have d7:=qt D c7;have u0:=qt D t0;have u1:=qt D t1;have u2:=qt D t2;have u3:=qt D t3;have R:Below V1.heap.size V1 (V1.alloc (.cells #[.int .i64 r.l,.slice xa r.r.length xc,.int .i64 r.lv,.int .i64 r.a] 56)):=qb _ _;have a8:(V1.alloc (.cells #[.int .i64 r.l,.slice xa r.r.length xc,.int .i64 r.lv,.int .i64 r.a] 56)).heap[V1.heap.size]?=some (.cells #[.int .i64 r.l,.slice xa r.r.length xc,.int .i64 r.lv,.int .i64 r.a] 56 (0,0)):=heap_alloc_new _ _
     go_upto_region 10 with fail
     generalize V1.alloc (.cells #[.int .i64 r.l,.slice xa r.r.length xc,.int .i64 r.lv,.int .i64 r.a] 56)=V2 at R a8 ⊢
     obtain⟨tb,g2⟩:∃tb,Hid (tb=V1.heap.size):=⟨_,rfl⟩
     rw[<-g2.out]at a8 ⊢;have C:=hid4 (qd D R) (qf R a3) a8 (qt (qd D R) c0);have f8:=hid (qt (qd D R) c7);clear y0 y1 t0 t1 t2 t3 c0 c7 k0 d7 u0 u1 u2 u3 D a3 R a8;have k1:=(qlj (x:=(a,d)) C.out.2.1).2;simp only at k1
     have c3:V2.cell? ⟨tb,1,none⟩=some (.slice xa r.r.length xc):=by rw[qe C.out.2.2.1];rfl
     have qx:=zk a2.out.2;have k5:r.r.length<=20:=HX.out.1.ln r (List.mem_of_getElem? HI.out.2.2.1);have g0:=zi C.out.2.2.2;have g1:=zi k1;have g3:=zi c3;clear k1 c3
     by_cases d4:d<r.r.length
     ·have f1:decide ((d:Int) ≥ (r.r.length:Int))=false:=decide_eq_false (by omega);have g6:decide (r.r.length<=d)=false:=decide_eq_false (by omega);have hy:r.r[d]?=some r.r[d]:=List.getElem?_eq_getElem d4;generalize r.r[d]=y at hy
      have a9:ahd S (a,d)=some y:=by unfold ahd;simp only;rw[HI.out.2.2.1];exact hy
      obtain⟨yb,yo,i1,cy⟩:=yd (a2.out.2.below C.out.1) hy;subst i1;have g4:=zi cy
      by_cases b3:y<S.tk
      ·have f2:decide ((y:Int)<(S.tk:Int))=true:=decide_eq_true (by omega);have g9:decide (y<S.tk)=true:=decide_eq_true b3
       have c5:Hid (∀z,ahd S (a,d)=some z->∀(q:Nat) (r:SR),0<q->S.rs[q]?=some r->r.l≠(z:Int)):=fun z hz q r' hq hr hl=>by
        rw[a9]at hz
        injection hz with hz
        obtain⟨x,h1,h2,-⟩:=HX.out.1.wf.rl q r' hq hr;omega
       clear hy a9 cy b3;refine zn (by kernel_rfl) ?_
       repeat (go_big_quiet_step (fail))
       refine wpQuiet_nil ?_;intro _ H;obtain⟨⟨nq,g⟩,G⟩:=H;subst G;simp only
       have P:Hid (∃out,RI S K out f (i+1)/\IO w (onto V2 nq g) E v F K (some ⟨lb,lo,none⟩) s j out/\Below t.heap.size t (onto V2 nq g)):=by
        have T:=qd C.out.1 (ke V2 nq g);exact⟨out,HI.out.1.skip HI.out.2.1 c5.out,a2.out.1.below T,qd HI.out.2.2.2 T⟩
       go_wp2_with fail;go_roundg (f - (i+1))
       case measure=>omega
       case rel=>exact⟨some ⟨lb,lo,none⟩,s,j,i+1,rfl,by simp,b9,Z,u,a0,U,Nat.le_refl _,P⟩
      ·have f2:decide ((y:Int)<(S.tk:Int))=false:=decide_eq_false (by omega);have g9:decide (y<S.tk)=false:=decide_eq_false b3;have f9:=hid cy;have c9:Hid (RJ S K out f i y 1):=HI.out.1.into HI.out.2.1 a9;clear hy a9 cy b3;refine zn (by kernel_rfl) ?_
       repeat (go_big_quiet_step (fail))
       refine wpQuiet_nil ?_;intro _ H;obtain⟨⟨nq,g⟩,G⟩:=H;subst G;simp only;clear g0 g1 g3 g4;have a7:Hid (Below V2.heap.size V2 (onto V2 nq g)):=ke V2 nq g;generalize onto V2 nq g=N at a7 ⊢
       have HC:Hid (∀V,Below N.heap.size N V->V.cell? ⟨b1,7,none⟩=some (.slice (some ⟨i2,ro,none⟩) S.rs.length h.rc)/\V.cell? ⟨xb,1,none⟩=some (.int .i64 (d:Int))/\V.cell? ⟨tb,1,none⟩=some (.slice (some ⟨yb,yo,none⟩) r.r.length xc)/\V.cell? ⟨yb,yo+d,none⟩=some (.int .i64 (y:Int))):=fun V hV=>by
        have T:=qd a7.out hV;refine⟨qt T f8.out,(qlj (x:=(a,d)) (qf T C.out.2.1)).2,?_,qt T f9.out⟩;rw[qe (qf T C.out.2.2.1)];rfl
       have b6:Hid (Below t.heap.size t N):=qd HI.out.2.2.2 (qd C.out.1 a7.out);have d1:Hid (IO w N E v F K (some ⟨lb,lo,none⟩) s j out):=a2.out.1.below (qd C.out.1 a7.out)
       obtain⟨rn,a6⟩:∃rn,Hid (S.rs.length=rn):=⟨_,rfl⟩
       rw[a6.out]at qr hn HC
       have f4:1<=rn:=by rw[<-a6.out];omega
       go_wp2_with fail
       go_loopg [5,10] rn (fun L2 s5 s10 wr=>∃(A:Option Addr) (s j k:Nat),s5=.slice A s j/\s10=.int .i64 (k:Int)/\1<=k/\k<=rn/\f<=s/\s<=840/\s<=j/\j<=9223372036854775807/\rn - k<=L2/\Hid (Below N.heap.size N wr/\∃out,RJ S K out f i y k/\IO w wr E v F K A s j out))
       case atStart=>exact⟨some ⟨lb,lo,none⟩,s,j,1,rfl,rfl,Nat.le_refl _,f4,Z,u,a0,U,by omega,(⟨Below.refl _ _,out,c9.out,d1.out⟩:Below N.heap.size N N/\∃out,RJ S K out f i y 1/\IO w N E v F K (some ⟨lb,lo,none⟩) s j out)⟩
       case round =>
        clear c9 d1;obtain⟨A,s,j,k,rfl,rfl,j0,k2,Z,u,a0,U,i8,J⟩:=hrel;obtain⟨c7,c1,c3,c4⟩:=HC.out wr J.out.1
        by_cases b8:k<rn
        ·have d5:(k:Int)<(rn:Int):=by omega
         obtain⟨rk,b0⟩:∃rk,S.rs[k]?=some rk:=⟨S.rs[k]'(by rw[a6.out];exact b8),List.getElem?_eq_getElem _⟩
         have f6:=qd a1.out.1 (qd b6.out J.out.1);obtain⟨k7,l0,l1,l2,O,v0,-⟩:=(HX.out.2.1.below f6).rl.at b0;rw[f5]at O
         injection O with O
         injection O with e1 e2
         subst e1 e2
         go_upto_region 14 with fail
         have g1:=zi c1;have g3:=zi c3;have g4:=zi c4;have g7:=zi c7;have g8:=zi v0;clear c7 c1 c3 c4 v0 f6;have d2:=hid b0
         by_cases Y:rk.l=(y:Int)
         ·have f3:(rk.l == (y:Int))=true:=by rw[beq_iff_eq];exact Y
          have b7:=hid Y;clear Y b0;refine zn (by kernel_rfl) ?_
          repeat (go_big_quiet_step (fail))
          refine wpQuiet_nil ?_;intro _ H;obtain⟨⟨nq,g⟩,G⟩:=H;subst G;simp only;clear g1 g3 g4 g7 g8;have Q:Hid (Below wr.heap.size wr (onto wr nq g)):=ke wr nq g;generalize onto wr nq g=V4 at Q ⊢
          have b4:Hid (Calls Tryz.prog 43 #[.slice A s j,.agg #[.int .i64 (k:Int),.int .i64 0]] V4 fun e w'=>∃b o n' c',e=.returned (.slice (some ⟨b,o,none⟩) n' c')/\f<=n'/\n'<=840/\n'<=c'/\c'<=9223372036854775807/\Hid (Below N.heap.size N w'/\∃out,RJ S K out f i y (k+1)/\IO w w' E v F K (some ⟨b,o,none⟩) n' c' out)):=by
           obtain⟨I,out,rj,M⟩:=J.out;refine(uag V4 out A s j (k,0) (M.1.below Q.out) (by omega)).mono ?_;rintro e w' ⟨b,o,n',c',rfl,h1,h2,h0⟩;have c8:=rj.put (by omega) d2.out b7.out;refine⟨b,o,n',c',rfl,?_,?_,(zk h1).1,(zk h1).2,qd (qd I Q.out) h2,_,c8,h1,fun B d3 ho=>h0 B (Nat.le_trans d3 (qd a1.out.1 (qd b6.out (qd I Q.out))).size) (zl (M.2 B d3 ho) Q.out)⟩
           ·rw[<-yz h1];exact c8.ri.le
           ·rw[<-yz h1];exact(c8.ri.ok HX.out.1 HX.out.2.2.1).2
          clear J;go_wp2_with fail;refine b4.out.mono ?_;rintro e V5 ⟨b,o,n',c',rfl,h6,h7,h8,h9,P⟩;clear b4 Q;go_wp2_with fail;go_roundg (rn - (k+1))
          case measure=>omega
          case rel=>exact⟨some ⟨b,o,none⟩,n',c',k+1,rfl,by simp,by omega,b8,h6,h7,h8,h9,Nat.le_refl _,P⟩
         ·have f3:(rk.l == (y:Int))=false:=by rw[beq_eq_false_iff_ne];exact Y
          have b7:=hid Y;clear Y b0;refine zn (by kernel_rfl) ?_
          repeat (go_big_quiet_step (fail))
          refine wpQuiet_nil ?_;intro _ H;obtain⟨⟨nq,g⟩,G⟩:=H;subst G;simp only
          have P:Hid (Below N.heap.size N (onto wr nq g)/\∃out,RJ S K out f i y (k+1)/\IO w (onto wr nq g) E v F K A s j out):=by
           obtain⟨I,out,rj,M⟩:=J.out;have T:=ke wr nq g;exact⟨qd I T,out,rj.other (fun r' d9=>by rw[d2.out]at d9;cases d9;exact b7.out),M.below T⟩
          clear J;go_wp2_with fail;go_roundg (rn - (k+1))
          case measure=>omega
          case rel=>exact⟨A,s,j,k+1,rfl,by simp,by omega,b8,Z,u,a0,U,Nat.le_refl _,P⟩
        ·have d5:¬(k:Int)<(rn:Int):=by omega
         have P:Hid (∃out,RI S K out f (i+1)/\IO w wr E v F K A s j out/\Below t.heap.size t wr):=by
          obtain⟨I,out,rj,M⟩:=J.out;exact⟨out,rj.out (by rw[a6.out];omega),M,qd b6.out I⟩
         clear J;go_wp2_with fail;go_roundg (f - (i+1))
         case measure=>omega
         case rel=>exact⟨A,s,j,i+1,rfl,by simp,b9,Z,u,a0,U,Nat.le_refl _,P⟩
     ·have f1:decide ((d:Int) ≥ (r.r.length:Int))=true:=decide_eq_true (by omega);have g6:decide (r.r.length<=d)=true:=decide_eq_true (by omega)
      have c5:Hid (∀z,ahd S (a,d)=some z->∀(q:Nat) (r:SR),0<q->S.rs[q]?=some r->r.l≠(z:Int)):=fun z hz=>by
       obtain⟨r',h1,h2⟩:=qlb hz;rw[HI.out.2.2.1]at h1
       cases h1
       exact absurd (List.getElem?_eq_some_iff.1 h2).1 d4
      refine zn (by kernel_rfl) ?_
      repeat (go_big_quiet_step (fail))
      refine wpQuiet_nil ?_;intro _ H;obtain⟨⟨nq,g⟩,G⟩:=H;subst G;simp only
      have P:Hid (∃out,RI S K out f (i+1)/\IO w (onto V2 nq g) E v F K (some ⟨lb,lo,none⟩) s j out/\Below t.heap.size t (onto V2 nq g)):=by
       have T:=qd C.out.1 (ke V2 nq g);exact⟨out,HI.out.1.skip HI.out.2.1 c5.out,a2.out.1.below T,qd HI.out.2.2.2 T⟩
      go_wp2_with fail;go_roundg (f - (i+1))
      case measure=>omega
      case rel=>exact⟨some ⟨lb,lo,none⟩,s,j,i+1,rfl,by simp,b9,Z,u,a0,U,Nat.le_refl _,P⟩
    ·have d6:¬(i:Int)<(f:Int):=by omega
     have he:i=f:=by omega
     have P:Hid (Below t.heap.size t wr/\∃out m i,RI S K out m i/\IO w wr E v F K A s j out/\(f+1≠0->m+1=f+1/\m<=i)):=by
      obtain⟨out,ri,X,I⟩:=J.out;exact⟨I,out,f,i,ri,X,fun _=>⟨rfl,by omega⟩⟩
     clear J;go_wp2_with fail;go_roundg (842 - (f+1))
     case measure=>omega
     case rel=>exact⟨A,s,j,f+1,rfl,by simp,u,by omega,Nat.le_refl _,P⟩
theorem yp(l m:List It)(X:Option Addr)(a G:Nat)(Y:Option Addr)(s H:Nat)(w:World)(E:ItR w X a G l)(F:ItR w Y s H m)(hn:a<=100000)(r:Bool)(hp:r=true↔l=m):
  Calls Tryz.prog 17 #[.slice X a G,.slice Y s H] w fun e w'=>e=.returned (.bool r)/\Below w.heap.size w w':=by
 have p:=hid2 (yz E).symm (yz F).symm;have C:=hid hp;have V:=hid2 E F;have q1:a<=G/\G<=9223372036854775807:=zk E;have q2:s<=H/\H<=9223372036854775807:=zk F;clear hp E F
 by_cases o:a=s
 ·have hb:((a:Int) != (s:Int))=false:=by simp[o]
  go_enter Tryz.func17,Tryz.ntmps17;go_wp2_with fail
  go_loopg [5] a (fun kx s5 wr=>∃k:Nat,s5=.int .i64 k/\k<=a/\a - k<=kx/\Hid (Below w.heap.size w wr/\∀(i:Nat) (x y:It),i<k->l[i]?=some x->m[i]?=some y->x=y))
  case atStart=>exact⟨0,rfl,Nat.zero_le _,by omega,(⟨Below.refl _ _,fun i x y h=>absurd h (Nat.not_lt_zero _)⟩:Below w.heap.size w _/\∀(i:Nat) (x y:It),i<0->l[i]?=some x->m[i]?=some y->x=y)⟩
  case round =>
   obtain⟨k,rfl,hk,hg,J⟩:=hrel
   by_cases O:k<a
   ·have z:(k:Int)<(a:Int):=by omega
    obtain⟨x,t⟩:∃x,l[k]?=some x:=⟨l[k]'(by rw[<-p.out.1];exact O),List.getElem?_eq_getElem _⟩
    obtain⟨y,A⟩:∃y,m[k]?=some y:=⟨m[k]'(by rw[<-p.out.2];omega),List.getElem?_eq_getElem _⟩
    obtain⟨b1,o1,rfl,c1,K⟩:=qe5 (V.out.1.below J.out.1) t;obtain⟨b2,o2,rfl,c2,L⟩:=qe5 (V.out.2.below J.out.1) A;have D:=hid2 t A;clear t A
    have Z:k<s:=by omega
    obtain⟨S,R⟩:=x;obtain⟨U,T⟩:=y;simp only at c1 K c2 L
    go_upto_region 6 with fail
    have g1:=zi c1;have g2:=zi c2;have g3:=zi K;have g4:=zi L
    have I:Hid (∀n os,Below w.heap.size w (onto wr n os)):=fun n os=>qd J.out.1 (ke wr n os)
    clear c1 c2 K L
    by_cases b:S=U
    ·have M:((S:Int) != (U:Int))=false:=by simp[b]
     by_cases f:R=T
     ·have N:((R:Int) != (T:Int))=false:=by simp[f]
      have g:Hid (∀(i:Nat) (x y:It),i<k+1->l[i]?=some x->m[i]?=some y->x=y):=fun i u v hi P Q=>by
       rcases Nat.lt_or_ge i k with h | h
       ·exact J.out.2 i u v h P Q
       ·have:i=k:=by omega
        subst this;rw[D.out.1]at P;rw[D.out.2]at Q
        cases P;cases Q
        rw[b,f]
      clear b f J;refine zn (by kernel_rfl) ?_
      repeat (go_big_quiet_step (fail))
      refine wpQuiet_nil ?_;intro _ d;obtain⟨⟨nq,B⟩,c⟩:=d;subst c;simp only;go_wp2_with fail;go_roundg (a - (k+1))
      case measure=>omega
      case rel=>exact⟨k+1,by simp,by omega,Nat.le_refl _,(⟨I.out _ _,g.out⟩:Below w.heap.size w _/\∀(i:Nat) (x y:It),i<k+1->l[i]?=some x->m[i]?=some y->x=y)⟩
     ·have N:((R:Int) != (T:Int))=true:=by rw[bne_iff_ne];omega
      have g:Hid (r=false):=zj C.out (fun h=>by have j:=D.out;rw[h]at j;rw[j.1]at j;have q:=Option.some.inj j.2;injection q with _ q;exact f q)
      clear b f J;refine zn (by kernel_rfl) ?_
      repeat (go_big_quiet_step (fail))
      refine wpQuiet_nil ?_;intro _ d;obtain⟨⟨nq,B⟩,c⟩:=d;subst c;simp only;go_wp2_with fail;go_ret;exact⟨by rw[g.out];rfl,I.out _ _⟩
    ·have M:((S:Int) != (U:Int))=true:=by rw[bne_iff_ne];omega
     have g:Hid (r=false):=zj C.out (fun h=>by have j:=D.out;rw[h]at j;rw[j.1]at j;have q:=Option.some.inj j.2;injection q with q _;exact b q)
     clear b J;refine zn (by kernel_rfl) ?_
     repeat (go_big_quiet_step (fail))
     refine wpQuiet_nil ?_;intro _ d;obtain⟨⟨nq,B⟩,c⟩:=d;subst c;simp only;go_wp2_with fail;go_ret;exact⟨by rw[g.out];rfl,I.out _ _⟩
   ·have z:¬(k:Int)<(a:Int):=by omega
    have g:Hid (r=true):=xh C.out (qbq (by rw[<-p.out.1,<-p.out.2];exact o) (fun i x y t A=>J.out.2 i x y (by have:=(List.getElem?_eq_some_iff.1 t).1;rw[<-p.out.1]at this;omega) t A))
    go_wp2_with fail;go_ret;exact⟨by rw[g.out];rfl,J.out.1⟩
 ·have hb:((a:Int) != (s:Int))=true:=by simp;omega
  have g:=hid (zj C.out (fun h=>o (by rw[p.out.1,p.out.2,h])));clear o;go_enter Tryz.func17,Tryz.ntmps17;go_wp2_with fail;go_ret;exact⟨by rw[g.out];rfl,Below.refl _ _⟩
theorem u63:Tryz.prog.underlying 63=some (.slice 66):=by kernel_rfl
theorem i66:(Tryz.prog.info? 66).map (fun i=>(i.zero,i.size,i.bytes))=some (some (.agg #[.slice none 0 0,.slice none 0 0]),2,48):=by kernel_rfl
structure RSt where
 ka:Option Addr
 kc:Nat
 K:List It
 ga:Option Addr
 gc:Nat
 g:List Int
def rs2 (s:RSt):List Value:=[.slice s.ka s.K.length s.kc,.slice s.ga s.g.length s.gc]
def rsC (ss:List RSt):List Value:=ss.flatMap rs2
theorem uad:∀{a:List RSt} {i:Nat} {s:RSt},a[i]?=some s->(rsC a)[i * 2]?=some (.slice s.ka s.K.length s.kc)/\(rsC a)[i * 2+1]?=some (.slice s.ga s.g.length s.gc)
 | [],i,s,h=>by cases h
 | t :: a,0,s,h=>by cases h;exact⟨rfl,rfl⟩
 | t :: a,i+1,s,h=>by
  have b:(i+1) * 2=i * 2+1+1:=by omega
  have c:(i+1) * 2+1=(i * 2+1)+1+1:=by omega
  have d:rsC (t :: a)=.slice t.ka t.K.length t.kc :: .slice t.ga t.g.length t.gc :: rsC a:=rfl;rw[c,b,d,List.getElem?_cons_succ,List.getElem?_cons_succ,List.getElem?_cons_succ,List.getElem?_cons_succ];exact uad (by rw[List.getElem?_cons_succ]at h;exact h)
theorem ubj(a:List RSt)(s:RSt):rsC (a++[s])=rsC a++rs2 s:=by
 unfold rsC;rw[List.flatMap_append];simp
theorem uaz:∀(a:List RSt) (i:Nat) (s:RSt) (p:Option Addr) (q:Nat) (r:List Int),a[i]?=some s->rsC (a.set i { s with ga:=p,gc:=q,g:=r })=(rsC a).set (i * 2+1) (.slice p r.length q)
 | [],i,s,p,q,r,h=>by cases h
 | t :: a,0,s,p,q,r,h=>by cases h;rfl
 | t :: a,i+1,s,p,q,r,h=>by
  have c:(i+1) * 2+1=(i * 2+1)+1+1:=by omega
  have b:∀(t:RSt) (a:List RSt),rsC (t :: a)=.slice t.ka t.K.length t.kc :: .slice t.ga t.g.length t.gc :: rsC a:=fun _ _=>rfl
  rw[List.set_cons_succ,c,b,b,List.set_cons_succ,List.set_cons_succ];rw[uaz a i s p q r (by rw[List.getElem?_cons_succ]at h;exact h)]
theorem ubr(s:RSt):∀u∈rs2 s,u.oneCell'=true:=by
 intro u a;unfold rs2 at a;simp only[List.mem_cons,List.not_mem_nil,or_false]at a
 rcases a with rfl | rfl <;> rfl
structure RM9 (B:Nat) (W:World) (la:Option Addr) (lc:Nat) (ss:List RSt):Prop where
 hB:B<=W.heap.size
 own:W.ownsRow B 66 2 (.slice la ss.length lc) ss.length (rsC ss)
 ker:∀(i:Nat) (s:RSt),ss[i]?=some s->W.ownsRow B 54 2 (.slice s.ka s.K.length s.kc) s.K.length (itC s.K)
 gos:∀(i:Nat) (s:RSt),ss[i]?=some s->W.ownsRow B 3 1 (.slice s.ga s.g.length s.gc) s.g.length (intC s.g)
 gdi:∀(i j:Nat) (s t:RSt) (b:Nat),i≠j->ss[i]?=some s->ss[j]?=some t->blk s.ga=some b->blk t.ga≠some b
theorem RM9.below{B:Nat}{W c:World}{d:Option Addr}{f:Nat}{g:List RSt}(h:RM9 B W d f g)(a:Below W.heap.size W c):RM9 B c d f g :=
 ⟨Nat.le_trans h.hB a.size,zl h.own a,fun i s b=>zl (h.ker i s b) a,fun i s b=>zl (h.gos i s b) a,h.gdi⟩
theorem RM9.at{B:Nat}{W:World}{d:Option Addr}{m:Nat}{l:List RSt}(h:RM9 B W d m l){i:Nat}{s:RSt}(c:l[i]?=some s):∃lb,d=some ⟨lb,0,none⟩/\W.cell? ⟨lb,i * 2,none⟩=some (.slice s.ka s.K.length s.kc)/\W.cell? ⟨lb,i * 2+1,none⟩=some (.slice s.ga s.g.length s.gc):=by
 have p:=(List.getElem?_eq_some_iff.1 c).1;obtain⟨n,c1,e,-,-,a⟩:=zo h.own
 injection e with e1 e2 e3
 subst e1
 obtain⟨lb,rfl⟩:∃g,d=some ⟨g,0,none⟩:=by
  rcases a with ⟨-,a,-⟩ | a
  ·omega
  ·exact a
 obtain⟨b,o,e,k⟩:=(Row.of_own h.own).at (by omega)
 injection e with e
 injection e with e1 e2
 subst e1 e2;have f:=k _ _ (uad c).1;have j:=k _ _ (uad c).2;rw[Nat.zero_add]at f j;exact⟨lb,rfl,f,j⟩
theorem RM9.push{B:Nat}{V:World}{v:Option Addr}{H:Nat}{f:List RSt}(h:RM9 B V v H f)(L:f.length<100000){K:List It}{o:Option Addr}{C p:Nat}(F:V.ownsRow B 54 2 (.slice o C p) C (itC K)):
  ∃g c m,(Builtin.append_ #[63,63] 63 #[.slice v f.length H,.slice (some ⟨V.heap.size,0,none⟩) 1 1]).run Tryz.prog (V.alloc (.cells #[.slice o C p,.slice none 0 0] 66))=.ok (.slice (some ⟨g,0,none⟩) (f.length+1) c) m /\
   RM9 B m (some ⟨g,0,none⟩) c (f++[⟨o,p,K,none,0,[]⟩])/\Kept (fun b=>blk v=some b) V m/\∀{T u n d:Nat} {q:Option Addr} {cs:List Value},T≠66->V.ownsRow B T u (.slice q n d) n cs->m.ownsRow B T u (.slice q n d) n cs:=by
 have y:=yz (j2 F);subst y;obtain⟨g,c,m,r,M,z,O⟩:=xy (us:=rs2 ⟨o,p,K,none,0,[]⟩) u63 i66 rfl (by decide) (by decide) rfl (ubr _) h.own h.hB L;have A:=(((Kept.refl _ V).alloc _).trans z (fun k _ e=>ze e)).weaken (G:=fun b=>blk v=some b) (fun k e=>e)
 have row:∀{T u n d:Nat} {q:Option Addr} {cs:List Value},T≠66->V.ownsRow B T u (.slice q n d) n cs->m.ownsRow B T u (.slice q n d) n cs:=fun J r =>
  qh r (fun j E=>A.block j (qw r (ze E)).2.1 (fun e=>qu (qw r (ze E)).2.2 (qw h.own e).2.2 J rfl))
 have l:∀{i:Nat} {t:RSt},(f++[⟨o,p,K,none,0,[]⟩])[i]?=some t->f[i]?=some t\/(i=f.length/\t=⟨o,p,K,none,0,[]⟩):=fun {i t} a=>by
  rcases Nat.lt_or_ge i f.length with hi | hi
  ·rw[List.getElem?_append_left hi]at a;exact .inl a
  ·rw[List.getElem?_append_right hi]at a;have I:=(List.getElem?_eq_some_iff.1 a).1;simp at I
   have e:i=f.length:=by omega
   subst e;rw[Nat.sub_self]at a;simp at a;exact .inr ⟨rfl,a.symm⟩
 refine⟨g,c,m,r,⟨Nat.le_trans h.hB A.size,?_,fun i t a=>?_,fun i t a=>?_,fun i j s t b x N a D=>?_⟩,A,row⟩
 ·rw[ubj,List.length_append];exact M
 ·rcases l a with e | ⟨-,rfl⟩
  ·exact row (by decide) (h.ker i t e)
  ·exact row (by decide) F
 ·rcases l a with e | ⟨-,rfl⟩
  ·exact row (by decide) (h.gos i t e)
  ·exact World.ownsRow_nil _ _ _ _
 ·rcases l a with e' | ⟨-,rfl⟩
  ·rcases l N with e | ⟨-,rfl⟩
   ·exact h.gdi i j s t b x e e' D
   ·cases D
  ·exact fun e=>by cases e
theorem RM9.lead{B:Nat}{V:World}{lb:Nat}{Y:Nat}{H:List RSt}(h:RM9 B V (some ⟨lb,0,none⟩) Y H){i:Nat}{s:RSt}(E:H[i]?=some s)(hn:s.g.length<100000)(x:Int):
  ∃g c f,(Builtin.append_ #[28,28] 28 #[.slice s.ga s.g.length s.gc,.slice (some ⟨V.heap.size,0,none⟩) 1 1]).run Tryz.prog (V.alloc (.cells #[.int .i64 x] 3))=.ok (.slice (some ⟨g,0,none⟩) (s.g.length+1) c) f /\
   f.frozen? ⟨lb,i * 2+1,none⟩=false/\f.cell? ⟨lb,i * 2+1,none⟩=some (.slice s.ga s.g.length s.gc) /\
   RM9 B (f.setCell ⟨lb,i * 2+1,none⟩ (.slice (some ⟨g,0,none⟩) (s.g.length+1) c)) (some ⟨lb,0,none⟩) Y (H.set i { s with ga:=some ⟨g,0,none⟩,gc:=c,g:=s.g++[x] }) /\
   Below B V (f.setCell ⟨lb,i * 2+1,none⟩ (.slice (some ⟨g,0,none⟩) (s.g.length+1) c)) /\
   ∀{T k' n cap:Nat} {ao:Option Addr} {cs:List Value},T≠3->T≠66->V.ownsRow B T k' (.slice ao n cap) n cs->(f.setCell ⟨lb,i * 2+1,none⟩ (.slice (some ⟨g,0,none⟩) (s.g.length+1) c)).ownsRow B T k' (.slice ao n cap) n cs:=by
 have l:=h.gos i s E;obtain⟨g,c,f,D,ho,R,hg⟩:=xy (us:=[.int .i64 x]) u29 i3 rfl (by decide) (by decide) rfl (fun u y=>by rw[List.mem_singleton]at y;subst y;rfl) l h.hB hn
 have X:=(((Kept.refl _ V).alloc _).trans R (fun k _ e=>ze e)).weaken (G:=fun b=>blk s.ga=some b) (fun k e=>e)
 have nl:¬blk s.ga=some lb:=fun e=>qu (qw l e).2.2 (za h.own (i:=lb) rfl) (by decide) rfl
 have d:f.ownsRow B 66 2 (.slice (some ⟨lb,0,none⟩) H.length Y) H.length (rsC H):=qh h.own (fun j L=>by cases L;exact X.block lb (qw h.own rfl).2.1 nl)
 have S:B<=lb:=(qw h.own (b:=lb) rfl).1;have z:=(List.getElem?_eq_some_iff.1 E).1;have M:=Row.of_own d;obtain⟨b,o,e,hc⟩:=M.at (by omega)
 injection e with e
 injection e with N K
 subst N K;have m:=hc _ _ (uad E).2;rw[Nat.zero_add]at m
 have F:∀k,k≠lb->(f.setCell ⟨lb,i * 2+1,none⟩ (.slice (some ⟨g,0,none⟩) (s.g.length+1) c)).heap[k]?=f.heap[k]?:=fun k hk=>Below.heap_setCell _ _ _ _ hk
 have bel:Below B V (f.setCell ⟨lb,i * 2+1,none⟩ (.slice (some ⟨g,0,none⟩) (s.g.length+1) c)):=(X.below h.hB (fun j L e=>by have:=(qw l e).1;omega)).setCell (p:=⟨lb,i * 2+1,none⟩) S _
 have row:∀{T k' n cap:Nat} {ao:Option Addr} {cs:List Value},(∀j,blk ao=some j->¬blk s.ga=some j)->T≠66->V.ownsRow B T k' (.slice ao n cap) n cs->(f.setCell ⟨lb,i * 2+1,none⟩ (.slice (some ⟨g,0,none⟩) (s.g.length+1) c)).ownsRow B T k' (.slice ao n cap) n cs:=fun U hT D =>
  qh D (fun j L=>by
   have J:=ze L;rw[F j (fun e=>qu (qw D J).2.2 (za h.own (i:=lb) rfl) hT e)]
   exact X.block j (qw D J).2.1 (U j J))
 have Q:g≠lb:=fun e=>qu (za ho (i:=g) rfl) (za d (i:=lb) rfl) (by decide) e
 refine⟨g,c,f,D,d.frozenAt _,m,⟨Nat.le_trans h.hB bel.size,?_,fun j t a=>?_,fun j t a=>?_,fun j k t u b A a y C=>?_⟩,bel,fun h3 P D=>row (fun j r I=>qu (qw D r).2.2 (qw l I).2.2 h3 rfl) P D⟩
 ·have e:(s.g++[x]).length=s.g.length+1:=by rw[List.length_append];rfl
  rw[uaz H i s _ _ _ E,List.length_set,e];exact(d.stored (i * 2+1) _).1
 ·rw[List.getElem?_set]at a
  by_cases e:i=j
  ·subst e;rw[if_pos rfl,if_pos z]at a
   cases a
   exact row (fun j r I=>qu (qw (h.ker i s E) r).2.2 (qw l I).2.2 (by decide) rfl) (by decide) (h.ker i s E)
  ·rw[if_neg e]at a;exact row (fun j' r I=>qu (qw (h.ker j t a) r).2.2 (qw l I).2.2 (by decide) rfl) (by decide) (h.ker j t a)
 ·rw[List.getElem?_set]at a
  by_cases e:i=j
  ·subst e;rw[if_pos rfl,if_pos z]at a
   cases a
   have N:(s.g++[x]).length=s.g.length+1:=by rw[List.length_append];rfl
   have K:intC (s.g++[x])=intC s.g++[.int .i64 x]:=by unfold intC;rw[List.map_append];rfl
   simp only;rw[N,K];exact qh ho (fun j L=>by cases L;exact F g Q)
  ·rw[if_neg e]at a;exact row (fun j' r I=>h.gdi i j s t j' e E a I r) (by decide) (h.gos j t a)
 ·have Z:∀{q:Nat} {v:RSt} {b:Nat},q≠i->H[q]?=some v->blk v.ga=some b->b≠g:=fun {q v b} hq hv C e=>by
   subst e
   rcases hg with r | r
   ·exact h.gdi q i v s b hq hv E C (ze r)
   ·have:=(qw (h.gos q v hv) C).2.1;omega
  rw[List.getElem?_set]at a y
  by_cases e:i=j
  ·subst e;rw[if_pos rfl,if_pos z]at a
   cases a
   rw[if_neg A]at y
   injection C with C
   subst C
   exact fun e=>Z (fun e=>A e.symm) y e rfl
  ·rw[if_neg e]at a
   by_cases K:i=k
   ·subst K;rw[if_pos rfl,if_pos z]at y
    cases y
    exact fun O=>by
     injection O with O
     exact Z (fun e=>A e) a C O.symm
   ·rw[if_neg K]at y;exact h.gdi j k t u b A a y C
def FR9 (ss:List RSt) (k:List It) (x:Int):Prop:=(∃(j:Nat) (s:RSt),x=(j:Int)/\ss[j]?=some s/\s.K=k/\∀(q:Nat) (t:RSt),q<j->ss[q]?=some t->t.K≠k)\/(x=-1/\∀(q:Nat) (t:RSt),ss[q]?=some t->t.K≠k)
theorem ubx(c:List RSt)(k:List It):∃x,FR9 c k x:=by
 cases a:c.findIdx? (fun s=>decide (s.K=k)) with
 | some j =>
  obtain⟨d,f,g⟩:=List.findIdx?_eq_some_iff_getElem.1 a;refine⟨(j:Int),.inl ⟨j,c[j],rfl,List.getElem?_eq_getElem d,of_decide_eq_true f,fun q t i b=>?_⟩⟩;obtain⟨l,h⟩:=List.getElem?_eq_some_iff.1 b;have:=g q i;rw[h]at this
  exact fun e=>this (decide_eq_true e)
 | none =>
  rw[List.findIdx?_eq_none_iff]at a;exact⟨-1,.inr ⟨rfl,fun q t b=>of_decide_eq_false (a t (List.mem_of_getElem? b))⟩⟩
theorem uba(w:World)(B:Nat)(L:Option Addr)(M:Nat)(a:List RSt)(h:RM9 B w L M a)(k:List It)(A:Option Addr)(D C:Nat)(G:ItR w A D C k)(I:∀s∈a,s.K.length<=840)(N:a.length<=1000)(x:Int)(H:FR9 a k x):
  Calls Tryz.prog 42 #[.slice L a.length M,.slice A D C] w fun e P=>e=.returned (.int .i64 x)/\Below w.heap.size w P:=by
 have O:=zq h.own;have g:=hid4 h G I H
 obtain⟨b,d⟩:∃b,Hid (a.length=b):=⟨_,rfl⟩
 rw[d.out]at O N ⊢;clear h G I H;go_enter Tryz.func42,Tryz.ntmps42;go_wp2_with fail
 go_loopg [5] b (fun kx s5 wr=>∃i:Nat,s5=.int .i64 (i:Int)/\i<=b/\b - i<=kx/\Hid (Below w.heap.size w wr/\∀(q:Nat) (t:RSt),q<i->a[q]?=some t->t.K≠k))
 case atStart=>exact⟨0,rfl,Nat.zero_le _,by omega,(⟨Below.refl _ _,fun q t h=>absurd h (Nat.not_lt_zero _)⟩:Below w.heap.size w w/\∀(q:Nat) (t:RSt),q<0->a[q]?=some t->t.K≠k)⟩
 case round =>
  obtain⟨i,rfl,R,Q,J⟩:=hrel
  by_cases m:i<b
  ·have n:(i:Int)<(b:Int):=by omega
   obtain⟨s,o⟩:∃s,a[i]?=some s:=⟨a[i]'(by rw[d.out];exact m),List.getElem?_eq_getElem _⟩
   obtain⟨r,y⟩:=zv (s.K=k);have v:=g.out.1.below J.out.1;obtain⟨lb,u,c1,-⟩:=v.at o;subst u;have F:=hid (yp s.K k s.ka s.K.length s.kc A D C wr (j2 (v.ker i s o)) (g.out.2.1.below J.out.1) (by have:=g.out.2.2.1 s (List.mem_of_getElem? o);omega) r y)
   have c:=hid4 o y J.out.1 J.out.2;clear v J o y;go_wp2_with fail;refine F.out.mono ?_;rintro e V ⟨rfl,l⟩;have E:Hid (Below w.heap.size w V):=qd c.out.2.2.1 l;clear F l c1
   cases r
   ·have f:Hid (Below w.heap.size w V/\∀(q:Nat) (t:RSt),q<i+1->a[q]?=some t->t.K≠k):=⟨E.out,fun q t S z=>by
     rcases Nat.lt_or_ge q i with e | e
     ·exact c.out.2.2.2 q t e z
     ·have e:q=i:=by omega
      subst e;rw[c.out.1]at z
      cases z
      exact fun e=>by have:=c.out.2.1.2 e;cases this⟩
    go_wp2_with fail;go_roundg (b - (i+1))
    case measure=>omega
    case rel=>exact⟨i+1,by simp,m,Nat.le_refl _,f⟩
   ·have f:Hid (x=(i:Int)):=by
     have p:=c.out.2.1.1 rfl
     rcases g.out.2.2.2 with ⟨j,t,h1,h2,h3,h4⟩ | ⟨-,h1⟩
     ·show _=_
      rcases Nat.lt_trichotomy i j with e | e | e
      ·exact absurd p (h4 i s e c.out.1)
      ·rw[h1,e]
      ·exact absurd h3 (c.out.2.2.2 j t e h2)
     ·exact absurd p (h1 i s c.out.1)
    go_wp2_with fail;go_ret;exact⟨by rw[f.out];rfl,E.out⟩
  ·have n:¬(i:Int)<(b:Int):=by omega
   have f:Hid (x=-1/\Below w.heap.size w wr):=by
    refine⟨?_,J.out.1⟩
    rcases g.out.2.2.2 with ⟨j,t,h1,h2,h3,h4⟩ | ⟨h1,-⟩
    ·exact absurd h3 (J.out.2 j t (by have:=(List.getElem?_eq_some_iff.1 h2).1;rw[d.out]at this;omega) h2)
    ·exact h1
   clear J;go_wp2_with fail;go_ret;exact⟨by rw[f.out.1];rfl,f.out.2⟩
def gfl (ss:List RSt):List Int:=ss.flatMap (·.g)
theorem ua0:∀(a:List RSt) (i:Nat) (s b:RSt) (x:Int),a[i]?=some s->b.g=s.g++[x]->(∀(j:Nat) (t:RSt),i<j->a[j]?=some t->t.g=[])->gfl (a.set i b)=gfl a++[x]
 | [],i,s,b,x,h,_,_=>by cases h
 | t :: a,0,s,b,x,h,hg,he=>by
  cases h
  have e:gfl a=[]:=by
   unfold gfl;rw[List.flatMap_eq_nil_iff];intro u f;obtain⟨j,d⟩:=List.mem_iff_getElem?.1 f;exact he (j+1) u (Nat.succ_pos _) (by rw[List.getElem?_cons_succ];exact d)
  have c:gfl (b :: a)=b.g++gfl a:=by unfold gfl;rw[List.flatMap_cons]
  have k:gfl (t :: a)=t.g++gfl a:=by unfold gfl;rw[List.flatMap_cons]
  rw[List.set_cons_zero,c,k,e,hg,List.append_nil,List.append_nil]
 | t :: a,i+1,s,b,x,h,hg,he=>by
  have c:∀l:List RSt,gfl (t :: l)=t.g++gfl l:=fun l=>by unfold gfl;rw[List.flatMap_cons]
  rw[List.set_cons_succ,c,c,ua0 a i s b x (by rw[List.getElem?_cons_succ]at h;exact h) hg (fun j u d f=>he (j+1) u (Nat.succ_lt_succ d) (by rw[List.getElem?_cons_succ];exact f)),List.append_assoc]
theorem uat:∀(b:List RSt) (i:Nat) (s a:RSt),b[i]?=some s->a.K=s.K->(b.set i a).map (·.K)=b.map (·.K)
 | [],i,s,a,h,_=>by cases h
 | t :: b,0,s,a,h,hk=>by cases h;rw[List.set_cons_zero,List.map_cons,List.map_cons,hk]
 | t :: b,i+1,s,a,h,hk=>by
  rw[List.set_cons_succ,List.map_cons,List.map_cons,uat b i s a (by rw[List.getElem?_cons_succ]at h;exact h) hk]
structure RA9 (S:Sp) (n:Nat) (ss:List RSt) (i z:Nat):Prop where
 ha:∀C,CloF S C->au S C n (i * n+z)=some (ss.map (·.K),gfl ss)
 gl:∀(j:Nat) (s:RSt),ss[j]?=some s->s.g.length=(if j<i then n else if j=i then z else 0)
 cs:∀s∈ss,KerP S s.K
 l1:ss.length<=120
structure RB9 (S:Sp) (n:Nat) (ss:List RSt) (i z:Nat) (x:Int):Prop where
 ha:∀C,CloF S C->au S C n (i * n+z+1)=some (ss.map (·.K),gfl ss++[x])
 gl:∀(j:Nat) (s:RSt),ss[j]?=some s->s.g.length=(if j<i then n else if j=i then z else 0)
 cs:∀s∈ss,KerP S s.K
 l1:ss.length<=120
theorem RA9.start{S:Sp}{n:Nat}{c:Option Addr}{d:Nat}(h:0<S.rs.length):RA9 S n [⟨c,d,[(0,0)],none,0,[]⟩] 0 0 :=
 ⟨fun C _=>by rw[Nat.zero_mul];rfl,fun j s a=>by
  have b:=(List.getElem?_eq_some_iff.1 a).1
  have e:j=0:=by simp at b;exact b
  subst e
  cases a
  rfl,fun s a=>by
  rw[List.mem_singleton]at a;subst a
  exact qit h,(by show 1<=120;decide)⟩
theorem RA9.row{S:Sp}{n:Nat}{c:List RSt}{i:Nat}(h:RA9 S n c i n):RA9 S n c (i+1) 0 :=
 ⟨fun C d=>by rw[Nat.add_mul,Nat.one_mul,Nat.add_zero];exact h.ha C d,fun j s f=>by
  rw[h.gl j s f]
  by_cases a:j<i
  ·rw[if_pos a,if_pos (by omega)]
  ·rw[if_neg a]
   by_cases b:j=i
   ·rw[if_pos b,if_pos (by omega)]
   ·rw[if_neg b,if_neg (by omega)]
    split <;> rfl,h.cs,h.l1⟩
theorem RA9.fin{S:Sp}{n:Nat}{a:List RSt}{i:Nat}(h:RA9 S n a i 0)(d:a.length<=i):vk S n (a.map (·.K)) (gfl a)/\∀s∈a,s.g.length=n :=
 ⟨fun C c=>⟨_,h.ha C c,by rw[List.length_map,Nat.mul_comm];exact Nat.le_trans (Nat.mul_le_mul_right n d) (Nat.le_add_right _ _)⟩,fun s f=>by
  obtain⟨j,b⟩:=List.mem_iff_getElem?.1 f;have:=(List.getElem?_eq_some_iff.1 b).1
  rw[h.gl j s b,if_pos (by omega)]⟩
theorem RB9.lead{S:Sp}{n:Nat}{k:List RSt}{i z:Nat}{x:Int}(h:RB9 S n k i z x){s f:RSt}(d:k[i]?=some s)(m:f.K=s.K)(o:f.g=s.g++[x]):RA9 S n (k.set i f) i (z+1):=by
 have c:=(List.getElem?_eq_some_iff.1 d).1;refine⟨fun C p=>?_,fun j t a=>?_,fun t a=>?_,by rw[List.length_set];exact h.l1⟩
 ·rw[uat k i s f d m,ua0 k i s f x d o (fun j t b a=>by
   have:=h.gl j t a;rw[if_neg (by omega),if_neg (by omega)]at this
   exact List.length_eq_zero_iff.1 this)]
  exact h.ha C p
 ·rw[List.getElem?_set]at a
  by_cases e:i=j
  ·subst e;rw[if_pos rfl,if_pos c]at a
   cases a
   have:=h.gl i s d;rw[if_neg (by omega),if_pos rfl]at this;rw[if_neg (by omega),if_pos rfl,o,List.length_append,this];rfl
  ·rw[if_neg e]at a;rw[h.gl j t a]
   by_cases l:j<i
   ·rw[if_pos l,if_pos l]
   ·rw[if_neg l,if_neg l,if_neg (by omega),if_neg (by omega)]
 ·obtain⟨j,b⟩:=List.mem_iff_getElem?.1 a;rw[List.getElem?_set]at b
  by_cases e:i=j
  ·subst e;rw[if_pos rfl,if_pos c]at b
   cases b
   rw[m];exact h.cs s (List.mem_of_getElem? d)
  ·rw[if_neg e]at b;exact h.cs t (List.mem_of_getElem? b)
theorem uae{a:List RSt}{i:Nat}{s:RSt}(b:a[i]?=some s):(a.map (·.K))[i]?=some s.K:=by rw[List.getElem?_map,b];rfl
theorem uau{a:List RSt}{k:List It}{j:Nat}(h:∀(q:Nat) (t:RSt),q<j->a[q]?=some t->t.K≠k):∀q:Nat,q<j->(a.map (·.K))[q]?≠some k:=fun q c e=>by
 rw[List.getElem?_map]at e;obtain⟨t,d,b⟩:=Option.map_eq_some_iff.1 e;exact h q t c d b
theorem RA9.none{S:Sp}{n:Nat}{a:List RSt}{i z:Nat}(h:RA9 S n a i z){s:RSt}(f:a[i]?=some s)(g:z<n){L:List It}(c:vq S s.K L)(d:nxt S L z=[]):RB9 S n a i z (-1) :=
 ⟨fun C b=>qtf (h.ha C b) (uae f) g (by rw[b _ _ c];exact d),h.gl,h.cs,h.l1⟩
theorem RA9.old{S:Sp}{n:Nat}{a:List RSt}{i z:Nat}(h:RA9 S n a i z){s:RSt}(k:a[i]?=some s)(m:z<n){L:List It}(c:vq S s.K L)(g:nxt S L z≠[]){j:Nat}{t:RSt}(f:a[j]?=some t)(l:t.K=nxt S L z)(d:∀(q:Nat) (t:RSt),q<j->a[q]?=some t->t.K≠nxt S L z):RB9 S n a i z (j:Int) :=
 ⟨fun C b=>quc (h.ha C b) (uae k) m (by rw[b _ _ c]) g (by rw[uae f,l]) (uau d),h.gl,h.cs,h.l1⟩
theorem RA9.new{S:Sp}{n:Nat}{b:List RSt}{i z:Nat}(h:RA9 S n b i z){s:RSt}(g:b[i]?=some s)(v:z<n){L:List It}(d:vq S s.K L)(u:nxt S L z≠[])(p:∀(q:Nat) (t:RSt),b[q]?=some t->t.K≠nxt S L z)(f:b.length<120)(k:Option Addr)(l:Nat):RB9 S n (b++[⟨k,l,nxt S L z,Option.none,0,[]⟩]) i z (b.length:Int):=by
 have r:=(List.getElem?_eq_some_iff.1 g).1;refine⟨fun C c=>?_,fun j t a=>?_,fun t a=>?_,by rw[List.length_append];exact f⟩
 ·have:=qud (h.ha C c) (uae g) v (by rw[c _ _ d]) u (fun q=>uau (j:=q+1) (fun x t _ a=>p x t a) q (Nat.lt_succ_self _)) (by rw[List.length_map];exact f)
  rw[this,List.map_append,List.length_map]
  have e:gfl (b++[⟨k,l,nxt S L z,Option.none,0,[]⟩])=gfl b:=by unfold gfl;rw[List.flatMap_append];simp
  rw[e];rfl
 ·rcases Nat.lt_or_ge j b.length with e | e
  ·rw[List.getElem?_append_left e]at a;exact h.gl j t a
  ·rw[List.getElem?_append_right e]at a;have o:=(List.getElem?_eq_some_iff.1 a).1;simp at o
   have m:j=b.length:=by omega
   subst m;rw[Nat.sub_self]at a
   cases a
   rw[if_neg (by omega),if_neg (by omega)];rfl
 ·rcases List.mem_append.1 a with e | e
  ·exact h.cs t e
  ·rw[List.mem_singleton]at e;subst e;exact qm6 d.1 z
theorem RA9.over{S:Sp}{n:Nat}{a:List RSt}{i z:Nat}(h:RA9 S n a i z){s:RSt}(k:a[i]?=some s)(m:z<n){L:List It}(c:vq S s.K L)(f:nxt S L z≠[])(d:∀(q:Nat) (t:RSt),a[q]?=some t->t.K≠nxt S L z)(g:120<=a.length):Ovr9 S n:=fun C b =>
 ⟨_,qtg (h.ha C b) (uae k) m (by rw[b _ _ c]) f (fun q=>uau (j:=q+1) (fun o t _ l=>d o t l) q (Nat.lt_succ_self _)) (by rw[List.length_map];exact g)⟩
theorem xr{B a:Nat}{V W:World}(h:Below B V W)(b:a<=B):Below a V W:=⟨h.os,h.tape,h.output,h.size,fun k c=>h.block k (by omega)⟩
structure RJ9 (w wr:World) (B b1:Nat) (h:SHd) (S:Sp) (n:Nat) (lb sn lc i z:Nat) (ss:List RSt):Prop where
 bel:Below w.heap.size w wr
 box:wr.heap[b1]?=some (.cells (sC h S) 31 (0,0))
 b1B:b1<B
 wB:w.heap.size<=B
 len:ss.length=sn
 rm:RM9 B wr (some ⟨lb,0,none⟩) lc ss
 ra:RA9 S n ss i z
theorem RJ9.step{w wr a:World}{B c:Nat}{h:SHd}{S:Sp}{n:Nat}{lb f d i z:Nat}{g:List RSt}(j:RJ9 w wr B c h S n lb f d i z g)(b:Below wr.heap.size wr a):RJ9 w a B c h S n lb f d i z g :=
 ⟨qd j.bel b,qf b j.box,j.b1B,j.wB,j.len,j.rm.below b,j.ra⟩
def RK9 (w V:World) (B b1:Nat) (h:SHd) (S:Sp) (n lb sn lc i z:Nat) (a:Option Addr) (m c:Nat) (K L:List It) (x:Int):Prop:=∃ss s,ss[i]?=some s/\s.K=K/\Below w.heap.size w V/\V.heap[b1]?=some (.cells (sC h S) 31 (0,0))/\ss.length=sn/\RM9 B V (some ⟨lb,0,none⟩) lc ss/\RB9 S n ss i z x/\V.ownsRow B 54 2 (.slice a m c) m (itC L)
def RL9 (w V:World) (B b1:Nat) (h:SHd) (S:Sp) (n lb sn lc i z:Nat) (a:Option Addr) (m c:Nat) (K L:List It):Prop:=∃ss s,RJ9 w V B b1 h S n lb sn lc i z ss/\ss[i]?=some s/\s.K=K/\V.ownsRow B 54 2 (.slice a m c) m (itC L)
theorem RK9.lead{w V:World}{B A:Nat}{h:SHd}{S:Sp}{n lb O N i z:Nat}{a:Option Addr}{m c:Nat}{K L:List It}{x:Int}(P:RK9 w V B A h S n lb O N i z a m c K L x)(R:z<1000)(C:A<B/\w.heap.size<=B):
  ∃J y t p W,V.cell? ⟨lb,i * 2+1,none⟩=some (.slice J z y)/\(Builtin.append_ #[28,28] 28 #[.slice J z y,.slice (some ⟨V.heap.size,0,none⟩) 1 1]).run Tryz.prog (V.alloc (.cells #[.int .i64 x] 3))=.ok (.slice (some ⟨t,0,none⟩) (z+1) p) W /\
   W.frozen? ⟨lb,i * 2+1,none⟩=false/\W.cell? ⟨lb,i * 2+1,none⟩=some (.slice J z y)/\(z<=y/\y<=9223372036854775807)/\Hid (RL9 w (W.setCell ⟨lb,i * 2+1,none⟩ (.slice (some ⟨t,0,none⟩) (z+1) p)) B A h S n lb O N i (z+1) a m c K L):=by
 obtain⟨T,s,l,I,D,E,G,k,v,H⟩:=P;obtain⟨Q,j,-,c1⟩:=k.at l
 injection j with j
 injection j with j
 subst j
 have M:s.g.length=z:=by rw[v.gl i s l,if_neg (by omega),if_pos rfl]
 obtain⟨t,p,W,r,f,d,u,b,o⟩:=k.lead l (by omega) x;rw[M]at r c1 d u b o;have q:=zq (k.gos i s l);rw[M]at q;have F:=(List.getElem?_eq_some_iff.1 l).1;refine⟨_,_,t,p,W,c1,r,f,d,q,_,{ s with ga:=some ⟨t,0,none⟩,gc:=p,g:=s.g++[x] },⟨D.trans (xr b C.2),?_,C.1,C.2,by rw[List.length_set];exact G,u,v.lead l rfl rfl⟩,?_,I,o (by decide) (by decide) H⟩
 ·rw[b.block A C.1];exact E
 ·rw[List.getElem?_set,if_pos rfl,if_pos F]
theorem ubb(w:World)(h:SHd)(S:Sp)(n:Nat)(p:NSp S n)(g0:IsSp w h S):
  Calls Tryz.prog 29 #[sv h S] w fun e D=>Below w.heap.size w D/\((e=.returned (.slice none 0 0)/\Ovr9 S n)\/∃B lb r l,e=.returned (.slice (some ⟨lb,0,none⟩) l.length r)/\RM9 B D (some ⟨lb,0,none⟩) r l/\vk S n (l.map (·.K)) (gfl l)/\(∀s∈l,s.g.length=n)/\(∀s∈l,KerP S s.K)/\l.length<=120):=by
 have b8:Below w.heap.size w (w.alloc (.cells (sC h S) 31)):=qb _ _;have a0:(w.alloc (.cells (sC h S) 31)).heap[w.heap.size]?=some (.cells (sC h S) 31 (0,0)):=heap_alloc_new _ _;have k3:=p.wf.tk;have k1:=p.wf.nt;have h0:=hid p.nn
 have k0:n<=301:=by have:=p.nn;omega
 have HX:=hid2 p g0;clear p g0;unfold sv;rw[sc9];go_enter Tryz.func29,Tryz.ntmps29
 go_upto_region 1 with fail
 rw[<-sc9 h S];generalize w.alloc (.cells (sC h S) 31)=y at b8 a0 ⊢
 obtain⟨C,g6⟩:∃C,Hid (C=w.heap.size):=⟨_,rfl⟩
 rw[<-g6.out]at a0 ⊢;obtain⟨c0,c1,-⟩:=sbox a0;have a5:=hid2 b8 a0;clear b8 a0
 go_upto_region 3 with fail
 clear c0 c1
 have en:(S.tk:Int)+1+(S.nt:Int)=(n:Int):=by have:=h0.out;omega
 rw[en];have b9:Below y.heap.size y (y.alloc (.cells #[.int .i64 0,.int .i64 0] 54)):=qb _ _;have c8:(y.alloc (.cells #[.int .i64 0,.int .i64 0] 54)).heap[y.heap.size]?=some (.cells #[.int .i64 0,.int .i64 0] 54 (0,0)):=heap_alloc_new _ _;have d8:(y.alloc (.cells #[.int .i64 0,.int .i64 0] 54)).heap.size=y.heap.size+1:=qz _ _;generalize y.alloc (.cells #[.int .i64 0,.int .i64 0] 54)=W1 at b9 c8 d8 ⊢;have a8:Below W1.heap.size W1 (W1.alloc (.cells #[.slice (some ⟨y.heap.size,0,none⟩) 1 1,.slice none 0 0] 66)):=qb _ _
 have c9:(W1.alloc (.cells #[.slice (some ⟨y.heap.size,0,none⟩) 1 1,.slice none 0 0] 66)).heap[y.heap.size+1]?=some (.cells #[.slice (some ⟨y.heap.size,0,none⟩) 1 1,.slice none 0 0] 66 (0,0)):=by
  rw[<-d8];exact heap_alloc_new _ _
 generalize W1.alloc (.cells #[.slice (some ⟨y.heap.size,0,none⟩) 1 1,.slice none 0 0] 66)=W2 at a8 c9 ⊢
 have a6:Hid (∃l,RJ9 w W2 y.heap.size C h S n (y.heap.size+1) 1 1 0 0 l):=by
  have U:=qd b9 a8;refine⟨[⟨some ⟨y.heap.size,0,none⟩,1,[(0,0)],none,0,[]⟩],qd a5.out.1 U,qf U a5.out.2,(Array.getElem?_eq_some_iff.1 a5.out.2).1,a5.out.1.size,rfl,⟨U.size,?_,fun i s p=>?_,fun i s p=>?_,fun i j s t b i6 p ht hb=>?_⟩,RA9.start (by have:=(List.getElem?_eq_some_iff.1 HX.out.1.wf.hd).1;exact this)⟩
  ·exact⟨rfl,.inr ⟨y.heap.size+1,1,#[.slice (some ⟨y.heap.size,0,none⟩) 1 1,.slice none 0 0],rfl,Nat.le_succ _,c9,Nat.le_refl _,by unfold maxLen;omega,rfl,rfl⟩⟩
  ·have e:i=0:=by have:=(List.getElem?_eq_some_iff.1 p).1;simp at this;exact this
   subst e
   cases p
   exact⟨rfl,.inr ⟨y.heap.size,1,#[.int .i64 0,.int .i64 0],rfl,Nat.le_refl _,qf a8 c8,Nat.le_refl _,by unfold maxLen;omega,rfl,rfl⟩⟩
  ·have e:i=0:=by have:=(List.getElem?_eq_some_iff.1 p).1;simp at this;exact this
   subst e
   cases p
   exact World.ownsRow_nil _ _ _ _
  ·have e:i=0:=by have:=(List.getElem?_eq_some_iff.1 p).1;simp at this;exact this
   subst e
   cases p
   cases hb
 generalize y.heap.size+1=lb at a6 ⊢;generalize y.heap.size=B at a6;clear b9 c8 d8 a8 c9 en
 have g7:=hid fun V (hV:Below w.heap.size w V)=>uah V h S n HX.out.1 (HX.out.2.below hV)
 have h6:=hid fun V (hV:Below w.heap.size w V)=>ua9 V h S n HX.out.1 (HX.out.2.below hV)
 go_wp2_with fail
 go_loopg [4,5] 121 (fun kx s4 s5 wr=>∃lb k r i:Nat,s4=.slice (some ⟨lb,0,none⟩) k r/\s5=.int .i64 (i:Int)/\i<=k/\1<=k/\k<=120/\k<=r/\r<=9223372036854775807/\121 - i<=kx/\Hid (∃l,RJ9 w wr B C h S n lb k r i 0 l))
 case atStart=>exact⟨lb,1,1,0,rfl,rfl,Nat.zero_le _,Nat.le_refl _,by omega,Nat.le_refl _,by omega,by omega,a6⟩
 case round =>
  clear a6;obtain⟨lb,k,r,i,rfl,rfl,hi,k2,v,G,F,hg,J⟩:=hrel
  by_cases f6:i<k
  ·have f7:(i:Int)<(k:Int):=by omega
   obtain⟨l,u⟩:=J.out;have o:=hid u;clear J u
   obtain⟨s,p⟩:∃s,l[i]?=some s:=⟨l[i]'(by rw[o.out.len];exact f6),List.getElem?_eq_getElem _⟩
   obtain⟨a4,Y,c1,-⟩:=o.out.rm.at p
   injection Y with Y
   injection Y with Y
   subst Y;have c6:=o.out.ra.cs s (List.mem_of_getElem? p);have HI:=hid2 p c6;have f1:=hid (o.out.rm.ker i s p)
   obtain⟨Ki,b4⟩:∃Ki,Hid (s.K=Ki):=⟨_,rfl⟩
   obtain⟨I,b5⟩:∃I,Hid (s.K.length=I):=⟨_,rfl⟩
   rw[b5.out]at c1
   have b7:=hid fun V (hV:Below wr.heap.size wr V)=>And.intro (qt hV c1) (sbox (qf hV o.out.box))
   have R:Hid (Calls Tryz.prog 30 #[sv h S,.slice s.ka I s.kc] wr.drew fun e D=>∃a m c L,e=.returned (.slice a m c)/\m<=c/\c<=9223372036854775807/\Below wr.heap.size wr D/\Hid (vq S s.K L/\D.ownsRow B 54 2 (.slice a m c) m (itC L))):=by
    have ho:=f1.out;rw[b5.out]at ho;refine(g7.out wr.drew (qd o.out.bel (qo wr)) s.K s.ka I s.kc c6 ((j2 ho).below (qo wr))).mono ?_;rintro e D ⟨a,m,c,L,rfl,h1,h2,h3,h4⟩;exact⟨a,m,c,L,rfl,(zk h1).1,(zk h1).2,qd (qo wr) h3,h2,h4 B (o.out.rm.hB) (zl ho (qo wr))⟩
   clear p c6 c1
   go_upto_region 6 with fail
   go_region_held (fun D=>D.cell? ⟨lb,i * 2,none⟩=some (.slice s.ka I s.kc)/\D.cell? ⟨C,0,none⟩=some (.int .i64 (S.tk:Int))/\D.cell? ⟨C,1,none⟩=some (.int .i64 (S.nt:Int))/\D.cell? ⟨C,2,none⟩=some (.int .i64 (S.st:Int))/\D.cell? ⟨C,3,none⟩=some (.int .i64 S.ex)/\D.cell? ⟨C,4,none⟩=some (.slice h.na S.nm.length h.nc)/\D.cell? ⟨C,5,none⟩=some (.slice h.la S.lv.length h.lc)/\D.cell? ⟨C,6,none⟩=some (.slice h.aa S.az.length h.ac)/\D.cell? ⟨C,7,none⟩=some (.slice h.ra S.rs.length h.rc)) (first | exact b7.out _ (qo _) | exact b7.out _ b3.out) (first
    | (go_at_call 30;refine R.out.mono ?_;clear R;rintro e V ⟨a,m,c,L,rfl,j0,i2,f5,a7⟩;have b3:Hid (Below wr.heap.size wr V):=f5;clear f5))
   all_goals
    have f0:Hid (RL9 w V B C h S n lb k r i 0 a m c Ki L):=⟨l,s,o.out.step b3.out,HI.out.1,b4.out,a7.out.2⟩
    have f2:Hid (vq S Ki L):=by
     have:=a7.out.1;rw[b4.out]at this;exact this
    have g8:Hid (∀x∈L,OkI S x):=by
     have hk:=HI.out.2
     exact fun x hx=>qpv hk.ok ((a7.out.1.2 x).1 hx)
    have A:=hid2 o.out.b1B o.out.wB;clear b7 o HI b4 b5 f1 b3 a7;go_wp2_with fail
    go_loopg [4,7] n (fun L2 s4 s7 wr=>∃lb k r z:Nat,s4=.slice (some ⟨lb,0,none⟩) k r/\s7=.int .i64 (z:Int)/\z<=n/\i<k/\k<=120/\k<=r/\r<=9223372036854775807/\n - z<=L2/\Hid (RL9 w wr B C h S n lb k r i z a m c Ki L))
    case atStart=>exact⟨lb,k,r,0,rfl,rfl,Nat.zero_le _,f6,v,G,F,by omega,f0⟩
    case round =>
     clear f0;obtain⟨lb,k,r,z,rfl,rfl,k4,X,v,G,F,i5,J⟩:=hrel
     by_cases H:z<n
     ·have g2:(z:Int)<(n:Int):=by omega
      obtain⟨l,s,u,p,f8,ow⟩:=J.out;have o:=hid4 u p f8 ow;obtain⟨d0,d1,d2,d3,d4,d5,d6,d7⟩:=sbox u.box;have HN:=hid (h6.out wr u.bel L a m c (j2 ow) f2.out.1 g8.out z H);clear J u p f8 ow;go_wp2_with fail;refine HN.out.mono ?_;rintro e V2 ⟨ka,I,kc,rfl,a9,c3⟩;have qk:=zq a9;have M:Hid (V2.ownsRow B 54 2 (.slice ka I kc) I (itC (nxt S L z))):=zc a9 o.out.1.rm.hB;have d:=hid3 (o.out.1.step c3) (zl o.out.2.2.2 c3) (yz (j2 a9));clear HN a9 c3 d0 d1 d2 d3 d4 d5 d6 d7
      have E:Hid (vq S s.K L):=by
       have:=f2.out;rw[<-o.out.2.2.1]at this;exact this
      by_cases c4:I=0
      ·have h8:¬(I:Int) > 0:=by omega
       have h9:decide (0<I)=false:=decide_eq_false (by omega);have i0:decide ((I:Int) > 0)=false:=decide_eq_false (by omega)
       have HM:Hid (RK9 w V2 B C h S n lb k r i z a m c Ki L (-1)) :=
        ⟨l,s,o.out.2.1,o.out.2.2.1,d.out.1.bel,d.out.1.box,d.out.1.len,d.out.1.rm,d.out.1.ra.none o.out.2.1 H E.out (List.length_eq_zero_iff.1 (by rw[d.out.2.2,c4])),d.out.2.1⟩
       clear o M d E;subst c4;obtain⟨pa,pc,g9,f4,W9,f3,r9,f9,d9,L1,T⟩:=HM.out.lead (by omega) A.out;clear HM;go_wp2_with(at_builtin;refine Lib.wpList_append_run _ rfl _ _ _ _ rfl _ _ rfl rfl _ _ r9 ?_)
       go_roundg (n - (z+1))
       case measure=>omega
       case rel=>exact⟨lb,k,r,z+1,rfl,by simp,H,X,v,G,F,Nat.le_refl _,T⟩
      ·have h8:(I:Int) > 0:=by omega
       have h9:decide (0<I)=true:=decide_eq_true (by omega);have i0:decide ((I:Int) > 0)=true:=decide_eq_true (by omega)
       have b6:Hid (nxt S L z≠[]):=fun e=>c4 (by rw[<-d.out.2.2,e];rfl)
       obtain⟨x,hx⟩:=ubx l (nxt S L z)
       have O:Hid (Calls Tryz.prog 42 #[.slice (some ⟨lb,0,none⟩) k r,.slice ka I kc] V2 fun e D=>e=.returned (.int .i64 x)/\Below V2.heap.size V2 D):=by
        have:=uba V2 B (some ⟨lb,0,none⟩) r l d.out.1.rm (nxt S L z) ka I kc (j2 M.out) (fun s p=>by
         have hk:=d.out.1.ra.cs s p
         exact qe3 hk.so hk.ok HX.out.1.nr HX.out.1.ln) (by rw[d.out.1.len];omega) x hx
        rw[d.out.1.len]at this;exact this
       rcases hx with ⟨j,t,rfl,hj,ht,hf⟩ | ⟨rfl,hf⟩
       ·have N:Hid (RB9 S n l i z (j:Int)):=d.out.1.ra.old o.out.2.1 H E.out b6.out hj ht hf;have i8:=(List.getElem?_eq_some_iff.1 hj).1;have i7:decide ((j:Int)<0)=false:=decide_eq_false (by omega);have a1:decide ((k:Int) > 120)=false:=decide_eq_false (by omega);have a2:decide (120<k)=false:=decide_eq_false (by omega);clear hj ht hf;go_wp2_with fail;refine O.out.mono ?_;rintro e V3 ⟨rfl,f⟩
        have HM:Hid (RK9 w V3 B C h S n lb k r i z a m c Ki L (j:Int)) :=
         ⟨l,s,o.out.2.1,o.out.2.2.1,qd d.out.1.bel f,qf f d.out.1.box,d.out.1.len,d.out.1.rm.below f,N.out,zl d.out.2.1 f⟩
        clear o M d E O N f;obtain⟨pa,pc,g9,f4,W9,f3,r9,f9,d9,L1,T⟩:=HM.out.lead (by omega) A.out;clear HM;go_wp2_with(at_builtin;refine Lib.wpList_append_run _ rfl _ _ _ _ rfl _ _ rfl rfl _ _ r9 ?_)
        go_roundg (n - (z+1))
        case measure=>omega
        case rel=>exact⟨lb,k,r,z+1,rfl,by simp,H,X,v,G,F,Nat.le_refl _,T⟩
       ·have N:Hid (∀(q:Nat) (t:RSt),l[q]?=some t->t.K≠nxt S L z):=hf;clear hf
        by_cases i1:120<=k
        ·have h7:Hid (Ovr9 S n):=d.out.1.ra.over o.out.2.1 H E.out b6.out N.out (by rw[d.out.1.len];exact i1)
         have a1:decide ((k:Int)+1 > 120)=true:=decide_eq_true (by omega);have a2:decide (120<k+1)=true:=decide_eq_true (by omega);go_wp2_with fail;refine O.out.mono ?_;rintro e V3 ⟨rfl,f⟩;obtain⟨g5,c5,W5,r5,Q,a3,b2⟩:=(d.out.1.rm.below f).push (by rw[d.out.1.len];omega) (zl M.out f)
         rw[d.out.1.len]at r5;have c7:=(qw d.out.1.rm.own (b:=lb) rfl).1;have P:Below B V3 W5:=a3.below (d.out.1.rm.below f).hB (fun j hj e=>by have:=(qw (d.out.1.rm.below f).own e).1;omega)
         have q5:=zq Q.own;rw[List.length_append,d.out.1.len]at q5;have g3:k+1<=c5:=q5.1;have g4:c5<=9223372036854775807:=q5.2;clear q5;have T:Hid (Below w.heap.size w W5):=(qd d.out.1.bel f).trans (xr P A.out.2);clear o M d E O N f Q a3 b2 P c7;go_wp2_with(at_builtin;refine Lib.wpList_append_run _ rfl _ _ _ _ rfl _ _ rfl rfl _ _ r5 ?_)
         go_ret;exact⟨T.out,.inl ⟨rfl,h7.out⟩⟩
        ·have a1:decide ((k:Int)+1 > 120)=false:=decide_eq_false (by omega);have a2:decide (120<k+1)=false:=decide_eq_false (by omega);go_wp2_with fail;refine O.out.mono ?_;rintro e V3 ⟨rfl,f⟩;obtain⟨g5,c5,W5,r5,Q,a3,b2⟩:=(d.out.1.rm.below f).push (by rw[d.out.1.len];omega) (zl M.out f)
         rw[d.out.1.len]at r5;have c7:=(qw d.out.1.rm.own (b:=lb) rfl).1;have P:Below B V3 W5:=a3.below (d.out.1.rm.below f).hB (fun j hj e=>by have:=(qw (d.out.1.rm.below f).own e).1;omega)
         have q5:=zq Q.own;rw[List.length_append,d.out.1.len]at q5;have g3:k+1<=c5:=q5.1;have g4:c5<=9223372036854775807:=q5.2;clear q5
         have HM:Hid (RK9 w W5 B C h S n g5 (k+1) c5 i z a m c Ki L (k:Int)):=by
          have Z:=d.out.1.ra.new o.out.2.1 H E.out b6.out N.out (by rw[d.out.1.len];omega) ka kc
          rw[d.out.1.len]at Z;refine⟨l++[⟨ka,kc,nxt S L z,none,0,[]⟩],s,?_,o.out.2.2.1,(qd d.out.1.bel f).trans (xr P A.out.2),?_,by rw[List.length_append,d.out.1.len];rfl,Q,Z,b2 (by decide) (zl d.out.2.1 f)⟩
          ·rw[List.getElem?_append_left (List.getElem?_eq_some_iff.1 o.out.2.1).1];exact o.out.2.1
          ·rw[P.block C A.out.1];exact qf f d.out.1.box
         clear o M d E O N f Q a3 b2 P c7;obtain⟨pa,pc,g9,f4,W9,f3,r9,f9,d9,L1,T⟩:=HM.out.lead (by omega) A.out;clear HM;go_wp2_with(first | (at_builtin;refine Lib.wpList_append_run _ rfl _ _ _ _ rfl _ _ rfl rfl _ _ r5 ?_) | (at_builtin;refine Lib.wpList_append_run _ rfl _ _ _ _ rfl _ _ rfl rfl _ _ r9 ?_))
         go_roundg (n - (z+1))
         case measure=>omega
         case rel=>exact⟨g5,k+1,c5,z+1,rfl,by simp,H,by omega,by omega,g3,g4,Nat.le_refl _,T⟩
     ·have g2:¬(z:Int)<(n:Int):=by omega
      have g1:z=n:=by omega
      have T:Hid (∃l,RJ9 w wr B C h S n lb k r (i+1) 0 l):=by
       obtain⟨l,s,u,-⟩:=J.out;have Z:=u.ra;rw[g1]at Z;exact⟨l,u.bel,u.box,u.b1B,u.wB,u.len,u.rm,Z.row⟩
      clear J g1;go_wp2_with fail;go_roundg (121 - (i+1))
      case measure=>omega
      case rel=>exact⟨lb,k,r,i+1,rfl,by simp,X,by omega,v,G,F,Nat.le_refl _,T⟩
  ·have f7:¬(i:Int)<(k:Int):=by omega
   have T:Hid (Below w.heap.size w wr/\∃B a4 b0 l,Value.slice (some ⟨lb,0,none⟩) k r=.slice (some ⟨a4,0,none⟩) l.length b0/\RM9 B wr (some ⟨a4,0,none⟩) b0 l/\vk S n (l.map (·.K)) (gfl l)/\(∀s∈l,s.g.length=n)/\(∀s∈l,KerP S s.K)/\l.length<=120):=by
    obtain⟨l,u⟩:=J.out;have hf:=u.ra.fin (by rw[u.len];omega)
    exact⟨u.bel,B,lb,r,l,by rw[u.len],u.rm,hf.1,hf.2,u.ra.cs,u.ra.l1⟩
   clear J;go_wp2_with fail;go_ret;obtain⟨hb,B',a4,b0,l,he,h1,h2,h3,h4,h5⟩:=T.out;exact⟨hb,.inr ⟨B',a4,b0,l,by rw[<-he];rfl,h1,h2,h3,h4,h5⟩⟩
theorem ubc:∀(a:List RSt) (n i z:Nat) (s:RSt),(∀s∈a,s.g.length=n)->a[i]?=some s->z<n->(gfl a)[i * n+z]?=s.g[z]?
 | [],n,i,z,s,_,h,_=>by cases h
 | t :: a,n,0,z,s,hl,h,hz=>by
  cases h
  have e:gfl (t :: a)=t.g++gfl a:=by unfold gfl;rw[List.flatMap_cons]
  rw[e,Nat.zero_mul,Nat.zero_add,List.getElem?_append_left (by rw[hl t (List.mem_cons_self ..)];exact hz)]
 | t :: a,n,i+1,z,s,hl,h,hz=>by
  have e:gfl (t :: a)=t.g++gfl a:=by unfold gfl;rw[List.flatMap_cons]
  have b:=hl t (List.mem_cons_self ..);rw[e,List.getElem?_append_right (by rw[b,Nat.add_mul,Nat.one_mul];omega),b,show(i+1) * n+z - n=i * n+z by rw[Nat.add_mul,Nat.one_mul];omega]
  exact ubc a n i z s (fun u c=>hl u (List.mem_cons_of_mem _ c)) (by rw[List.getElem?_cons_succ]at h;exact h) hz
theorem ubv{S:Sp}{n:Nat}{a:List Sta}{c:Lds}{g:List Int}(h:OA S n a c g (a.length * n+0)):vk S n (a.map (·.K)) g:=fun C b =>
 ⟨_,h.ha C b,by rw[List.length_map,Nat.mul_comm];exact Nat.le_refl _⟩
theorem uav(w:World)(h:SHd)(S:Sp)(n:Nat)(C:NSp S n)(f3:IsSp w h S):
  Calls Tryz.prog 11 #[sv h S] w fun e b=>e=.returned (.bool true)/\Below w.heap.size w b:=by
 have a6:Below w.heap.size w (w.alloc (.cells (sC h S) 31)):=qb _ _;have a0:(w.alloc (.cells (sC h S) 31)).heap[w.heap.size]?=some (.cells (sC h S) 31 (0,0)):=heap_alloc_new _ _;have h0:=C.wf.tk;have g9:=C.wf.nt;have g0:=hid C.nn
 have g6:n<=301:=by have:=C.nn;omega
 have P:=hid2 C f3;clear C f3;unfold sv;rw[sc9];go_enter Tryz.func11,Tryz.ntmps11
 go_upto_region 1 with fail
 rw[<-sc9 h S];generalize w.alloc (.cells (sC h S) 31)=W0 at a6 a0 ⊢
 obtain⟨Q,f5⟩:∃Q,Hid (Q=w.heap.size):=⟨_,rfl⟩
 rw[<-f5.out]at a0 ⊢
 have X:=hid fun V (f:Below W0.heap.size W0 V)=>sbox (qf f a0)
 have E:=hid a6;clear a6 a0;have b6:=hid (qul W0 h S n P.out.1 (P.out.2.below E.out))
 have c9:=hid fun V (f:Below w.heap.size w V)=>ubb V h S n P.out.1 (P.out.2.below f)
 obtain⟨c0,c1,c2,c3,c4,c5,c6,c7⟩:=X.out W0 (Below.refl _ _);go_wp2_with fail;refine b6.out.mono ?_;intro e V1 g1;clear b6 c0 c1 c2 c3 c4 c5 c6 c7
 rcases g1 with ⟨rfl,Y,hb1⟩ | ⟨ab,sa,sc,ss,ld,g,rfl,ham,hoa,hb1⟩
 ·have t:=hid2 hb1 Y;obtain⟨c0,c1,c2,c3,c4,c5,c6,c7⟩:=X.out V1 hb1;have G:=hid (c9.out V1 (qd E.out hb1));clear hb1 Y;go_wp2_with fail;refine G.out.mono ?_;rintro e u ⟨v,⟨rfl,-⟩ | ⟨B,lb,lc,rs,rfl,-,hf,-⟩⟩
  ·have HF:Hid (Below w.heap.size w u):=qd E.out (qd t.out.1 v)
   have N:∀W:World,(binOp .eql 63 (.slice none 0 0) (.slice none 0 0)).run Tryz.prog W=.ok (.bool true) W:=fun W=>Lib.run_eql_slice_nil W 63 66 none 0 0 0 0 u63
   clear v G c0 c1 c2 c3 c4 c5 c6 c7;go_wp2_with fail;go_ret;exact⟨rfl,HF.out⟩
  ·exact absurd t.out.2 (fun k=>uaf hf k)
 ·have t:=hid2 hb1 (ubv hoa);have a3:=hid2 ham hoa;obtain⟨c0,c1,c2,c3,c4,c5,c6,c7⟩:=X.out V1 hb1;have G:=hid (c9.out V1 (qd E.out hb1));clear hb1 ham hoa;go_wp2_with fail;refine G.out.mono ?_;rintro e u ⟨v,⟨rfl,Y⟩ | ⟨B,lb,lc,rs,rfl,b0,hf,d9,f1,d3⟩⟩
  ·exact absurd Y (fun k=>uaf t.out.2 k)
  ·obtain⟨hK,hG⟩:=uax t.out.2 hf;have R:=hid4 hK hG d9 f1
   have a4:Hid (rs.length=ss.length):=by
    have:=congrArg List.length hK;rw[List.length_map,List.length_map]at this;exact this.symm
   have j:=hid4 (qd t.out.1 v) (a3.out.1.below v) b0 a3.out.2;have g3:=zq b0.own
   have N:∀W:World,(binOp .eql 63 (.slice (some ⟨lb,0,none⟩) rs.length lc) (.slice none 0 0)).run Tryz.prog W=.ok (.bool false) W:=fun W=>Lib.run_eql_slice_nil W 63 66 (some ⟨lb,0,none⟩) rs.length lc 0 0 u63
   have F:Hid (∀V,Below u.heap.size u V->Calls Tryz.prog 12 #[.pointer (some ⟨ab,0,none⟩)] V fun e b=>e=.returned (.int .i64 (rs.length:Int))/\b=V):=fun V f=>by
    rw[a4.out];exact qp4 (j.out.2.1.below f)
   obtain⟨p,U⟩:∃p,Hid (rs.length=p):=⟨_,rfl⟩
   rw[U.out]at g3 N F d3 ⊢;clear v G c0 c1 c2 c3 c4 c5 c6 c7 hK hG hf d9 f1 b0 a3
   have g8:((p:Int) != (p:Int))=false:=by simp
   have c8:=hid fun V (f:Below u.heap.size u V)=>X.out V (qd j.out.1 f)
   have d2:Hid (Below w.heap.size w u):=qd E.out j.out.1
   have T:Hid (∀V,Below u.heap.size u V->∀i x:Int,-1000<=x/\x<=1000->(i<0\/(p:Int)<=i\/(x<0\/(n:Int)<=x))->Calls Tryz.prog 15 #[.pointer (some ⟨ab,0,none⟩),.int .i64 i,.int .i64 x] V fun e b=>e=.returned (.int .i64 (-1))/\Below V.heap.size V b):=fun V f i x hx g5=>by
    by_cases hi:i<0\/(p:Int)<=i
    ·exact qu7 V i x hx p (fun V' H=>F.out V' (qd f H)) hi
    ·obtain⟨k,rfl⟩:=Int.eq_ofNat_of_zero_le (by omega:0<=i)
     have hk:k<ss.length:=by rw[<-a4.out,U.out];omega
     have:=qu8 (j.out.2.1.below f) j.out.2.2.2 (List.getElem?_eq_getElem hk) x hx
     have e:gAt n ss.length g (k:Int) x=-1:=by
      unfold gAt;rw[if_neg (by omega)]
     rw[e]at this;exact this
   have f9:Hid (∀V,Below u.heap.size u V->Calls Tryz.prog 13 #[.pointer (some ⟨ab,0,none⟩),.int .i64 (p:Int)] V fun e b=>e=.returned (.slice none 0 0)/\Below V.heap.size V b):=fun V f=>qum V (p:Int) p (fun V' H=>F.out V' (qd f H)) (.inr (Int.le_refl _))
   have f8:Hid (∀V,Below u.heap.size u V->Calls Tryz.prog 14 #[.pointer (some ⟨ab,0,none⟩),.int .i64 (-1)] V fun e b=>e=.returned (.slice none 0 0)/\Below V.heap.size V b):=fun V f=>qu1 V (-1) p (fun V' H=>F.out V' (qd f H)) (.inl (by omega))
   go_wp2_with fail;refine(F.out _ (Below.refl _ _)).mono ?_;rintro e V3 ⟨rfl,rfl⟩;go_wp2_with fail;clear N
   go_loopg [6] p (fun kx s6 wr=>∃i:Nat,s6=.int .i64 (i:Int)/\i<=p/\p - i<=kx/\Hid (Below V3.heap.size V3 wr))
   case atStart=>exact⟨0,rfl,Nat.zero_le _,by omega,(Below.refl _ _:Below V3.heap.size V3 V3)⟩
   case round =>
    obtain⟨i,rfl,hi,hg,J⟩:=hrel
    by_cases a9:i<p
    ·have f2:(i:Int)<(p:Int):=by omega
     have g2:i<ss.length:=by rw[<-a4.out,U.out];exact a9
     obtain⟨s,C⟩:∃s,ss[i]?=some s:=⟨ss[i],List.getElem?_eq_getElem g2⟩
     obtain⟨r,hr⟩:∃r,rs[i]?=some r:=⟨rs[i]'(by rw[U.out];exact a9),List.getElem?_eq_getElem _⟩
     have Z:r.K=s.K:=by
      have h1:(rs.map (·.K))[i]?=some r.K:=by rw[List.getElem?_map,hr];rfl
      rw[<-R.out.1,List.getElem?_map,C]at h1
      injection h1 with h1
      exact h1.symm
     obtain⟨A,I,a8⟩:=j.out.2.2.2.cs s (List.mem_of_getElem? C);have f0:=qe3 I.so I.ok P.out.1.nr P.out.1.ln
     have d6:∀x∈s.L,OkI S x:=fun x hx=>qpv I.ok ((A.2 x).1 hx)
     have d5:=qe3 A.1 d6 P.out.1.nr P.out.1.ln
     have d4:0<s.L.length:=by
      obtain⟨y,hy⟩:=List.exists_mem_of_ne_nil _ a8;exact List.length_pos_of_mem ((A.2 y).2 (InC.mem hy))
     obtain⟨h6,M,c1,c2⟩:=(j.out.2.2.1.below J.out).at hr
     injection M with M
     injection M with M
     subst M;have a7:r.g.length=n:=R.out.2.2.1 r (List.mem_of_getElem? hr)
     obtain⟨D,q⟩:∃D,Hid (s.K.length=D):=⟨_,rfl⟩
     obtain⟨mn,b9⟩:∃mn,Hid (s.L.length=mn):=⟨_,rfl⟩
     rw[Z,q.out]at c1;rw[a7]at c2
     have b3:Hid (∀V,Below wr.heap.size wr V->Calls Tryz.prog 13 #[.pointer (some ⟨ab,0,none⟩),.int .i64 (i:Int)] V fun e b=>∃g c,e=.returned (.slice (some ⟨g,0,none⟩) D c)/\ItR b (some ⟨g,0,none⟩) D c s.K/\Below V.heap.size V b):=fun V f=>by
      rw[<-q.out];exact qu2 (j.out.2.1.below (qd J.out f)) C (List.length_pos_iff.2 a8) (by omega)
     have b4:Hid (∀V,Below wr.heap.size wr V->Calls Tryz.prog 14 #[.pointer (some ⟨ab,0,none⟩),.int .i64 (i:Int)] V fun e b=>∃g c,e=.returned (.slice (some ⟨g,0,none⟩) mn c)/\ItR b (some ⟨g,0,none⟩) mn c s.L/\Below V.heap.size V b):=fun V f=>by
      rw[<-b9.out];exact qu4 (j.out.2.1.below (qd J.out f)) C d4 (by omega)
     have b5:Hid (∀V,Below wr.heap.size wr V->Calls Tryz.prog 30 #[sv h S,.slice r.ka D r.kc] V fun e b=>∃a m c,e=.returned (.slice a m c)/\ItR b a m c s.L/\Below V.heap.size V b):=fun V f=>by
      have d7:=qd J.out f;have l:=j2 ((j.out.2.2.1.below d7).ker i r hr);rw[Z,q.out]at l;refine(uah V h S n P.out.1 (P.out.2.below (qd d2.out d7)) s.K r.ka D r.kc I l).mono ?_;rintro e b ⟨a,m,c,L,rfl,h1,h2,h3,-⟩;have e:L=s.L:=qm3 h2.1 A.1 (fun x=>(h2.2 x).trans (A.2 x).symm);subst e;exact⟨a,m,c,rfl,h1,h3⟩
     have a2:Hid (∀V,Below wr.heap.size wr V->∀g c,ItR V (some ⟨g,0,none⟩) D c s.K->Calls Tryz.prog 17 #[.slice (some ⟨g,0,none⟩) D c,.slice r.ka D r.kc] V fun e b=>e=.returned (.bool true)/\Below V.heap.size V b):=fun V f g c hg=>by
      have l:=j2 ((j.out.2.2.1.below (qd J.out f)).ker i r hr);rw[Z,q.out]at l;exact yp s.K s.K _ D c _ D r.kc V hg l (by rw[q.out]at f0;omega) true ⟨fun _=>rfl,fun _=>rfl⟩
     have a1:Hid (∀V,∀g c a m c',ItR V (some ⟨g,0,none⟩) mn c s.L->ItR V a m c' s.L->Calls Tryz.prog 17 #[.slice (some ⟨g,0,none⟩) mn c,.slice a m c'] V fun e b=>e=.returned (.bool true)/\Below V.heap.size V b):=fun V g c a m c' h1 h2 =>
      yp s.L s.L _ mn c a m c' V h1 h2 (by rw[b9.out]at d5;omega) true ⟨fun _=>rfl,fun _=>rfl⟩
     have a5:=hid fun V (f:Below wr.heap.size wr V)=>And.intro (qt f c1) (c8.out V (qd J.out f))
     have f6:=hid c2;have HI:=hid4 C hr a7 J.out;clear C hr Z A I a8 f0 d6 d5 d4 c1 c2 a7 J
     go_upto_region 10 with fail
     go_region_held (fun b=>b.cell? ⟨lb,i * 2,none⟩=some (.slice r.ka D r.kc)/\b.cell? ⟨Q,0,none⟩=some (.int .i64 (S.tk:Int))/\b.cell? ⟨Q,1,none⟩=some (.int .i64 (S.nt:Int))/\b.cell? ⟨Q,2,none⟩=some (.int .i64 (S.st:Int))/\b.cell? ⟨Q,3,none⟩=some (.int .i64 S.ex)/\b.cell? ⟨Q,4,none⟩=some (.slice h.na S.nm.length h.nc)/\b.cell? ⟨Q,5,none⟩=some (.slice h.la S.lv.length h.lc)/\b.cell? ⟨Q,6,none⟩=some (.slice h.aa S.az.length h.ac)/\b.cell? ⟨Q,7,none⟩=some (.slice h.ra S.rs.length h.rc)) (first | exact a5.out _ (qo _) | exact a5.out _ d.out) (first
      | (go_at_call 13;refine(b3.out _ (qo _)).mono ?_;rintro e VA ⟨gA,cA,rfl,hA,bA⟩;have d:=hid (qd (qo _) bA);have RA:=hid hA;clear hA bA)
      | (go_at_call 14;refine(b4.out _ d.out).mono ?_;rintro e VI ⟨gI,cI,rfl,hI,bI⟩;(try have RC:=hid (RC.out.below bI));have RI:=hid hI;have d:=hid (qd d.out bI);clear hI bI)
      | (go_at_call 30;refine(b5.out _ d.out).mono ?_;rintro e VC ⟨aC,mC,cC,rfl,hC,bC⟩;(try have RI:=hid (RI.out.below bC));have RC:=hid hC;have d:=hid (qd d.out bC);clear hC bC)
      | (go_at_call 17;first | (refine(a1.out _ _ _ _ _ _ RI.out RC.out).mono ?_;rintro e VE ⟨rfl,bE⟩;have d:=hid (qd d.out bE);clear bE) | (refine(a2.out _ d.out _ _ RA.out).mono ?_;rintro e VB ⟨rfl,bB⟩;have d:=hid (qd d.out bB);clear bB)))
     all_goals
      have b8:=hid d.out
      obtain⟨wo,h4⟩:∃wo,wo=wr:=⟨_,rfl⟩
      subst wr;clear a5 d b3 b4 b5 a2 a1;go_wp2_with fail
      go_loopg [7] n (fun L1 s7 wr=>∃z:Nat,s7=.int .i64 (z:Int)/\z<=n/\n - z<=L1/\Hid (Below wo.heap.size wo wr))
      case atStart=>exact⟨0,rfl,Nat.zero_le _,by omega,b8⟩
      case round =>
       clear b8;obtain⟨z,rfl,hz,g4,J⟩:=hrel;have c2:=qt J.out f6.out
       by_cases b2:z<n
       ·have f4:(z:Int)<(n:Int):=by omega
        obtain⟨x,hx⟩:∃x,r.g[z]?=some x:=⟨r.g[z]'(by rw[HI.out.2.2.1];exact b2),List.getElem?_eq_getElem _⟩
        have l:=Row.of_own ((j.out.2.2.1.below (qd HI.out.2.2.2 J.out)).gos i r HI.out.2.1);obtain⟨xb,L2,d8,cx⟩:=qc2 l hx;have qg:=zk l;rw[HI.out.2.2.1]at qg
        have f7:Hid (∀V,Below wr.heap.size wr V->Calls Tryz.prog 15 #[.pointer (some ⟨ab,0,none⟩),.int .i64 (i:Int),.int .i64 (z:Int)] V fun e b=>e=.returned (.int .i64 x)/\Below V.heap.size V b):=fun V f=>by
         have:=qu8 (j.out.2.1.below (qd HI.out.2.2.2 (qd J.out f))) j.out.2.2.2 HI.out.1 (z:Int) (by omega)
         have e:gAt n ss.length g (i:Int) (z:Int)=x:=by
          unfold gAt;rw[if_pos ⟨by omega,by omega,by omega,by omega⟩,Int.toNat_natCast,Int.toNat_natCast,R.out.2.1,ubc rs n i z r R.out.2.2.1 HI.out.2.1 b2,hx];rfl
         rw[e]at this;exact this
        rw[d8]at c2
        have b7:Hid (∀V,Below wr.heap.size wr V->V.cell? ⟨lb,i * 2+1,none⟩=some (.slice (some ⟨xb,L2,none⟩) n r.gc)/\V.cell? ⟨xb,L2+z,none⟩=some (.int .i64 x)):=fun V f=>⟨qt f c2,qt f cx⟩
        have h5:(x != x)=false:=by simp
        have O:=hid J.out;clear J hx l d8 cx
        go_upto_region 15 with fail
        clear c2
        go_region_held (fun b=>b.cell? ⟨lb,i * 2+1,none⟩=some (.slice (some ⟨xb,L2,none⟩) n r.gc)/\b.cell? ⟨xb,L2+z,none⟩=some (.int .i64 x)) (first | exact b7.out _ (qo _) | exact b7.out _ d.out) (first
         | (go_at_call 15;refine(f7.out _ (qo _)).mono ?_;rintro e VG ⟨rfl,bG⟩;have d:=hid (qd (qo _) bG);clear bG))
        all_goals
         have HF:=hid (qd O.out d.out);go_wp2_with fail;go_roundg (n - (z+1))
         case measure=>omega
         case rel=>exact⟨z+1,by simp,b2,Nat.le_refl _,HF⟩
       ·have f4:¬(z:Int)<(n:Int):=by omega
        have HF:=hid (qd HI.out.2.2.2 J.out);clear J;go_wp2_with fail;go_roundg (p - (i+1))
        case measure=>omega
        case rel=>exact⟨i+1,by simp,a9,Nat.le_refl _,HF⟩
    ·have f2:¬(i:Int)<(p:Int):=by omega
     have O:=hid J.out;have g7:=g0.out;clear J;go_wp2_with fail;refine(T.out _ O.out _ _ (by omega) (by omega)).mono ?_;rintro e U1 ⟨rfl,o⟩;have d:=hid o;obtain⟨d0,d1,-⟩:=c8.out U1 (qd O.out o);clear o;go_wp2_with fail;refine(T.out _ (qd O.out d.out) _ _ (by first | omega | (simp only[IntKind.wrap_i64];omega)) (by first | omega | (simp only[IntKind.wrap_i64];omega))).mono ?_
     rintro e U2 ⟨rfl,o⟩;have d:=hid (qd d.out o);clear o d0 d1;go_wp2_with fail;refine(T.out _ (qd O.out d.out) _ _ (by omega) (by omega)).mono ?_;rintro e U3 ⟨rfl,o⟩;have d:=hid (qd d.out o);clear o;go_wp2_with fail;refine(T.out _ (qd O.out d.out) _ _ (by omega) (by omega)).mono ?_;rintro e U4 ⟨rfl,o⟩;have d:=hid (qd d.out o);clear o;go_wp2_with fail;refine(f9.out _ (qd O.out d.out)).mono ?_;rintro e U5 ⟨rfl,o⟩;have d:=hid (qd d.out o);clear o;go_wp2_with fail;refine(f8.out _ (qd O.out d.out)).mono ?_;rintro e U6 ⟨rfl,o⟩;have HF:=hid (qd d2.out (qd O.out (qd d.out o)));clear o d;go_wp2_with fail;go_ret;exact⟨rfl,HF.out⟩
theorem Small.tok{G:Gm}(h:Small G)(c:G.ts.length<100){x:ByteArray}(b:x.size<=100):Small ⟨G.ts++[⟨x,0,0⟩],G.s,G.e,G.rs⟩ :=
 ⟨by simp only[List.length_append,List.length_singleton];omega,h.nr,h.st,fun t a=>by
  rcases List.mem_append.1 a with a | a
  ·exact h.tk t a
  ·rw[List.mem_singleton]at a;subst a
   exact b,h.rl⟩
theorem Small.rule{G:Gm}(h:Small G)(c:G.rs.length<200){r:Ru}(b:r.l.size<=100/\r.p.size<=100/\r.r.length<=100/\∀x∈r.r,x.size<=100):Small ⟨G.ts,G.s,G.e,G.rs++[r]⟩ :=
 ⟨h.nt,by simp only[List.length_append,List.length_singleton];omega,h.st,h.tk,fun q a=>by
  rcases List.mem_append.1 a with a | a
  ·exact h.rl q a
  ·rw[List.mem_singleton]at a;subst a
   exact b⟩
def GL (w W:World) (gb tn rn:Nat):Prop:=∃h G qs,GB w W gb h G qs/\Small G/\G.ts.length=tn/\G.rs.length=rn
theorem GL.new(w W:World)(a:Below w.heap.size w W):GL w (W.alloc (.cells #[.slice none 0 0,.string ⟨#[]⟩,.int .i64 0,.slice none 0 0] 25)) W.heap.size 0 0 :=
 ⟨_,_,_,qtv w W ⟨#[]⟩ 0 a,⟨by decide,by decide,by decide,fun t h=>(by cases h),fun r h=>(by cases h)⟩,rfl,rfl⟩
theorem GL.step{w W a:World}{b d c:Nat}(g:GL w W b d c)(j:Below W.heap.size W a):GL w a b d c:=by
 obtain⟨h,G,qs,f,i⟩:=g;exact⟨h,G,qs,f.step j,i⟩
theorem GL.bel{w W:World}{a d c:Nat}(g:GL w W a d c):Below w.heap.size w W:=by
 obtain⟨h,G,qs,b,-⟩:=g;exact b.bel
theorem GL.tok{w V W:World}{d a m:Nat}(g:GL w V d a m)(q:Below V.heap.size V W)(r:a<100){x:ByteArray}(t:x.size<=100):∃l i j c b,V.cell? ⟨d,0,none⟩=some (.slice l a i)/\(a<=i/\i<=9223372036854775807) /\
  (Builtin.append_ #[22,22] 22 #[.slice l a i,.slice (some ⟨W.heap.size,0,none⟩) 1 1]).run Tryz.prog (W.alloc (.cells #[.string x,.int .i64 0,.int .i64 0] 40))=.ok (.slice j (a+1) c) b/\b.cell? ⟨d,0,none⟩=some (.slice l a i)/\b.frozen? ⟨d,0,none⟩=false/\Hid (GL w (b.setCell ⟨d,0,none⟩ (.slice j (a+1) c)) d (a+1) m):=by
 obtain⟨h,G,qs,k,o,rfl,rfl⟩:=g;obtain⟨j,n,c,b,s,rfl,f,p⟩:=(k.step q).addTok (by omega) ⟨x,0,0⟩;exact⟨_,_,j,c,b,k.cells.1,zq k.own.tok,s,by rw[qe f];rfl,qj f 0,_,_,qs,p,o.tok r t,by simp,rfl⟩
theorem GL.rule{w W:World}{d s a:Nat}(g:GL w W d s a)(z:a<200){t:World}{L P:ByteArray}{l:List ByteArray}{p:Option Addr}{m q:Nat}(r:RC t W L P l p m q)(B:w.heap.size<=t.heap.size)(y:L.size<=100/\P.size<=100/\l.length<=100/\∀x∈l,x.size<=100):∃o i j c b,W.cell? ⟨d,3,none⟩=some (.slice o a i)/\(a<=i/\i<=9223372036854775807) /\
  (Builtin.append_ #[23,23] 23 #[.slice o a i,.slice (some ⟨W.heap.size,0,none⟩) 1 1]).run Tryz.prog (W.alloc (.cells #[.string L,.slice p m q,.string P] 42))=.ok (.slice j (a+1) c) b/\b.cell? ⟨d,3,none⟩=some (.slice o a i)/\b.frozen? ⟨d,3,none⟩=false/\Hid (GL w (b.setCell ⟨d,3,none⟩ (.slice j (a+1) c)) d s (a+1)):=by
 obtain⟨h,G,qs,k,u,rfl,rfl⟩:=g;obtain⟨j,n,c,b,A,rfl,f,v⟩:=k.addRule (by omega) ⟨L,l,P⟩ p q m (zc r.own (by omega)) r.len;exact⟨_,_,j,c,b,k.cells.2.2.2.1,zq k.own.rul,A,by rw[qe f];rfl,qj f 3,_,_,_,v,u.rule z y,rfl,by simp⟩
theorem ubd(x:Int):∃s:ByteArray,s.size<=100/\∀(W:World) (b:Nat),W.cell? ⟨b,0,none⟩=some (.int .u8 84)->W.cell? ⟨b,1,none⟩=some (.int .u8 x)->(convert 38 9 (.slice (some ⟨b,0,none⟩) 2 2)).run Tryz.prog W=.ok (.string s) W:=by
 refine⟨_,?_,fun W b c d=>run_convert_bytes_arg (P:=Tryz.prog) W 38 5 Tryz.underlying38 Tryz.underlying5 b 0 2 2 [84,x] rfl (fun j f=>by
  have a:j=0\/j=1:=by omega
  rcases a with rfl | rfl
  ·exact c
  ·exact d) 9 Tryz.underlying9⟩
 show 2<=100;omega
end Go.Proofs.YtbdogaaooeoccaaGreatDoor
namespace Go.Proofs.YtbdogaaooeoccaaGreatDoor.Lists
open Go.RowKit
theorem walk(n0 k0:Int)(w:World)(hp:Pow w):Calls Tryz.prog 4 #[.int .i64 n0,.int .i64 k0] w fun e w'=>e=.returned (.bool true)/\Below w.heap.size w w':=by
 have HP:=hid hp;clear hp;go_enter Tryz.func4,Tryz.ntmps4;go_wp2_with fail;refine(uaq w HP.out).mono ?_;rintro e V ⟨rfl,hB⟩;have Y:=hid hB;clear hB HP
 by_cases d6:n0<1
 ·go_wp2_with fail;go_ret;exact⟨rfl,Y.out⟩
 by_cases d7:10<n0
 ·go_wp2_with fail;go_ret;exact⟨rfl,Y.out⟩
 by_cases b7:k0<1
 ·go_wp2_with fail;go_ret;exact⟨rfl,Y.out⟩
 by_cases b8:6<k0
 ·go_wp2_with fail;go_ret;exact⟨rfl,Y.out⟩
 obtain⟨n,rfl⟩:∃n:Nat,n0=(n:Int):=⟨n0.toNat,by omega⟩
 obtain⟨k,rfl⟩:∃k:Nat,k0=(k:Int):=⟨k0.toNat,by omega⟩
 go_upto_region 7 with fail
 have B:=GL.new V V (Below.refl _ _);generalize V.alloc (.cells #[.slice none 0 0,.string ⟨#[]⟩,.int .i64 0,.slice none 0 0] 25)=W1 at B ⊢;generalize V.heap.size=A at B ⊢;have H0:=hid B;clear B
 go_upto_block 0 with fail
 go_cut [7] (fun s7 wd=>Hid (GL V wd A n 0))
 case first =>
  go_wp2_with fail
  go_loopg [7] n (fun kx s7 wr=>∃i:Nat,s7=.int .i64 i/\i<=n/\n - i<=kx/\Hid (GL V wr A i 0))
  case atStart=>exact⟨0,rfl,by omega,by omega,H0⟩
  case round =>
   clear H0;obtain⟨i,rfl,hi,hg,J⟩:=hrel
   by_cases b0:i<n
   ·have z:(i:Int)<(n:Int):=by omega
    have d8:0<=(97+(i:Int)):=by omega
    have d9:(97+(i:Int))<=255:=by omega
    obtain⟨s,hs,f⟩:=ubd (97+(i:Int));obtain⟨ta,tc,ao,c,L,c0,ql,F,d0,f0,v⟩:=J.out.tok (W:=wr.alloc (.cells #[.int .u8 84,.int .u8 (97+(i:Int))] 5)) (qb _ _) (by omega) hs;clear J hs;have g:(wr.alloc (.cells #[.int .u8 84,.int .u8 (97+(i:Int))] 5)).heap[wr.heap.size]?=some (.cells #[.int .u8 84,.int .u8 (97+(i:Int))] 5 (0,0)):=heap_alloc_new _ _;have Q:=f _ _ (by rw[qe g];rfl) (by rw[qe g];rfl)
    clear f g;rw[qz]at F;go_wp2_with(at_builtin;refine Lib.wpList_append_run _ rfl _ _ _ _ rfl _ _ rfl rfl _ _ F ?_)
    go_roundg (n - (i+1))
    case measure=>omega
    case rel=>exact⟨i+1,by simp,by omega,Nat.le_refl _,v⟩
   ·obtain rfl:i=n:=by omega
    have z:¬(i:Int)<(i:Int):=by omega
    go_wp2_with fail;go_meet;exact J
 case rest =>
  clear H0;have U:=hid hcut.out;clear hcut
  obtain⟨W2,f2⟩:∃W2,W2=wc:=⟨_,rfl⟩
  subst wc
  go_upto_block 2 with fail
  go_cut [8] (fun s8 wd=>Hid (∃a,GL V wd A n a))
  case first =>
   go_wp2_with fail
   go_loopg [8] n (fun kx s8 wr=>∃i:Nat,s8=.int .i64 i/\i<=n/\n - i<=kx/\Hid (∃a,a<=3 * i/\GL V wr A n a))
   case atStart=>exact⟨0,rfl,by omega,by omega,(⟨0,Nat.zero_le _,U.out⟩:∃a,a<=3 * 0/\GL V W2 A n a)⟩
   case round =>
    clear U;obtain⟨i,rfl,hi,hg,J⟩:=hrel
    by_cases b0:i<n
    ·have z:(i:Int)<(n:Int):=by omega
     have T:=hid J.out;clear J;go_wp2_with fail
     go_loopg [9] 3 (fun L2 s9 wr=>∃j:Nat,s9=.int .i64 j/\j<=3/\3 - j<=L2/\Hid (∃a,a<=3 * i+j/\GL V wr A n a))
     case atStart=>exact⟨0,rfl,by omega,by omega,T⟩
     case round =>
      clear T;obtain⟨j,rfl,hj,b5,J⟩:=hrel
      by_cases b9:j<3
      ·have a2:(j:Int)<3:=by omega
       have c9:0<=(n:Int) * (j:Int):=Int.mul_nonneg (by omega) (by omega)
       have d2:(n:Int) * (j:Int)<=20:=by
        have:n * j<=10 * 2:=Nat.mul_le_mul (by omega) (by omega)
        have e:((n * j:Nat):Int)=(n:Int) * (j:Int):=by simp
        omega
       have d4:(n:Int) * (j:Int)+(i:Int)<30:=by omega
       have T:=hid J.out
       obtain⟨D,f6⟩:∃D,D=wr:=⟨_,rfl⟩
       subst wr;clear J
       go_upto_region 18 with fail
       have M:=RC.new D ⟨#[115]⟩ ⟨#[]⟩;generalize D.alloc (.cells #[.string ⟨#[115]⟩,.slice none 0 0,.string ⟨#[]⟩] 42)=W3 at M ⊢
       obtain⟨C,d⟩:∃C,Hid (C=D.heap.size):=⟨_,rfl⟩
       rw[<-d.out]
       have I:Hid (∃xs t u,RC D W3 ⟨#[115]⟩ ⟨#[]⟩ xs t 0 u/\∀x∈xs,x.size<=100):=⟨_,_,_,M,fun x R=>by cases R⟩
       clear M
       go_upto_block 6 with fail
       go_cut [11] from 53 to 92 (fun s11 wd=>Hid (∃xs t u,RC D wd ⟨#[115]⟩ ⟨#[]⟩ xs t k u/\∀x∈xs,x.size<=100))
       case first =>
        go_wp2_with fail
        go_loopg [11] k (fun L3 s11 wr=>∃l:Nat,s11=.int .i64 l/\l<=k/\k - l<=L3/\Hid (∃xs t u,RC D wr ⟨#[115]⟩ ⟨#[]⟩ xs t l u/\∀x∈xs,x.size<=100))
        case atStart=>exact⟨0,rfl,by omega,by omega,I⟩
        case round =>
         clear I;obtain⟨l,rfl,hl,b6,J⟩:=hrel
         by_cases c8:l<k
         ·have a3:(l:Int)<(k:Int):=by omega
          have d5:¬n=0:=by omega
          obtain⟨xs,t,u,o,R⟩:=J.out
          have p1:wr.cell? ⟨C,1,none⟩=some (.slice t l u):=by rw[d.out,qe o.box];rfl
          obtain⟨X,hX⟩:∃X,IntKind.u8.wrap (IntKind.i64.wrap (97+(IntKind.i64.wrap ((i:Int)+IntKind.i64.wrap ((j:Int) * (l:Int)))).tmod (n:Int)))=X:=⟨_,rfl⟩
          obtain⟨s,hs,f⟩:=ubd X;have g:(wr.alloc (.cells #[.int .u8 84,.int .u8 X] 5)).drew.heap[wr.heap.size]?=some (.cells #[.int .u8 84,.int .u8 X] 5 (0,0)):=qf (qo _) (heap_alloc_new wr _);have Q:=f (wr.alloc (.cells #[.int .u8 84,.int .u8 X] 5)).drew _ (by rw[qe g];rfl) (by rw[qe g];rfl)
          have q1:=qp p1 (.cells #[.int .u8 84,.int .u8 X] 5);have q2:=qp q1 (.cells #[.string s] 9);have a4:=o.len;obtain⟨ao,m,c,L,F,y,N⟩:=(o.step (qd (qb wr (.cells #[.int .u8 84,.int .u8 X] 5)) (qo _))).add (by omega) s
          have hm:m=l+1:=by have:=N.len;rw[List.length_append,<-a4]at this;exact this
          subst hm
          have b1:(Builtin.append_ #[27,27] 27 #[.slice t l u,.slice (some ⟨wr.heap.size+1,0,none⟩) 1 1]).run Tryz.prog ((wr.alloc (.cells #[.int .u8 84,.int .u8 X] 5)).alloc (.cells #[.string s] 9)).drew=.ok (.slice ao (l+1) c) L:=by
           have e:(wr.alloc (.cells #[.int .u8 84,.int .u8 X] 5)).drew.heap.size=wr.heap.size+1:=qz _ _;rw[e]at F;exact F
          have d1:L.cell? ⟨C,1,none⟩=some (.slice t l u):=by rw[d.out,qe y];rfl
          have f1:L.frozen? ⟨C,1,none⟩=false:=by rw[d.out];exact qj y 1
          have v:Hid (∃xs t u,RC D (L.setCell ⟨C,1,none⟩ (.slice ao (l+1) c)) ⟨#[115]⟩ ⟨#[]⟩ xs t (l+1) u/\∀x∈xs,x.size<=100):=by
           rw[d.out];refine⟨_,_,_,N,fun x b2=>?_⟩
           rcases List.mem_append.1 b2 with h | h
           ·exact R x h
           ·rw[List.mem_singleton]at h;subst h;exact hs
          clear o R f g F y N hs a4 J T
          go_upto_region 21 with fail
          go_region_law(refine zb rfl (.tmp 72) (.tmp 84) rfl rfl (by simp[Act.eval]) (by simp[Act.eval]) b1 ?_)
          all_goals
           go_wp2_with fail;go_roundg (k - (l+1))
           case measure=>omega
           case rel=>exact⟨l+1,by simp,by omega,Nat.le_refl _,v⟩
         ·obtain rfl:l=k:=by omega
          have a3:¬(l:Int)<(l:Int):=by omega
          go_wp2_with fail;go_meet;exact J
       case rest =>
        clear I
        obtain⟨Z,f4⟩:∃Z,Z=wc:=⟨_,rfl⟩
        subst wc;obtain⟨a,P,hG⟩:=T.out;obtain⟨xs,t,u,o,R⟩:=hcut.out;have b3:=o.len;have p:=qe o.box
        have p0:Z.cell? ⟨C,0,none⟩=some (.string ⟨#[115]⟩):=by rw[d.out,qe o.box];rfl
        have p1:Z.cell? ⟨C,1,none⟩=some (.slice t k u):=by rw[d.out,qe o.box];rfl
        have p2:Z.cell? ⟨C,2,none⟩=some (.string ⟨#[]⟩):=by rw[d.out,qe o.box];rfl
        obtain⟨ra,rc,ao,c,L,y3,ql,F,d3,f3,hF⟩:=(hG.step o.bel).rule (by omega) o hG.bel.size ⟨by decide,by decide,by omega,R⟩
        have v:Hid (∃r,r<=3 * i+(j+1)/\GL V (L.setCell ⟨A,3,none⟩ (.slice ao (a+1) c)) A n r):=⟨a+1,by omega,hF.out⟩
        clear hF hG o R b3 hcut p T;go_wp2_with(at_builtin;refine Lib.wpList_append_run _ rfl _ _ _ _ rfl _ _ rfl rfl _ _ F ?_)
        go_roundg (3 - (j+1))
        case measure=>omega
        case rel=>exact⟨j+1,by simp,by omega,Nat.le_refl _,v⟩
      ·have a2:¬(j:Int)<3:=by omega
       have v:Hid (∃a,a<=3 * (i+1)/\GL V wr A n a):=by
        obtain⟨a,E,h2⟩:=J.out;exact⟨a,by omega,h2⟩
       clear J;go_wp2_with fail;go_roundg (n - (i+1))
       case measure=>omega
       case rel=>exact⟨i+1,by simp,by omega,Nat.le_refl _,v⟩
    ·obtain rfl:i=n:=by omega
     have z:¬(i:Int)<(i:Int):=by omega
     have v:Hid (∃a,GL V wr A i a):=by
      obtain⟨a,-,h2⟩:=J.out;exact⟨a,h2⟩
     clear J;go_wp2_with fail;go_meet;exact v
  case rest =>
   clear U;have U:=hid hcut.out;clear hcut
   obtain⟨W5,f5⟩:∃W5,W5=wc:=⟨_,rfl⟩
   subst wc;obtain⟨a,⟨ta,tc,ra,rc⟩,G,qs,hb,a7,a8,P⟩:=U.out;obtain⟨L1,O⟩:=ubs G;obtain⟨y0,y1,y2,y3,-⟩:=hb.cells;have b:=hid (qtb G ⟨ta,tc,ra,rc⟩ W5 L1 (hb.own.isG a7) O);have H:=hid (ubw O);have HW:=hid (qd Y.out hb.bel);unfold gv at b;simp only at y0 y3 b;rw[a8]at y0 b;rw[P]at y3 b;generalize G.s=gs at y1 b;generalize G.e=ge at y2 b;generalize spK G L1=S at b H;clear hb a7 a8 P O U;go_wp2_with fail;refine b.out.mono ?_;rintro e K ⟨E,rfl,a6,a0⟩;have hv:Below K.heap.size K (K.alloc (.cells (sC E S) 31)):=qb _ _
   have H4:Hid (Below w.heap.size w (K.alloc (.cells (sC E S) 31))/\IsSp (K.alloc (.cells (sC E S) 31)) E S/\(K.alloc (.cells (sC E S) 31)).heap[K.heap.size]?=some (.cells (sC E S) 31 (0,0))):=⟨qd (qd HW.out a0) hv,a6.below hv,heap_alloc_new _ _⟩
   clear a6 a0 hv HW b y0 y1 y2 y3
   by_cases h0:L1=0
   ·obtain⟨q,a5⟩:=H.out h0;have a9:=hid (uav _ E S q a5 H4.out.2.1);subst h0;obtain⟨c0,c1,c2,c3,c4,c5,c6,c7⟩:=sbox H4.out.2.2;clear H a5
    unfold sC at *
    go_wp2_with fail;refine a9.out.mono ?_;rintro e V6 ⟨rfl,a1⟩;have v:=hid (qd H4.out.1 a1);clear a1;go_wp2_with fail;go_ret;exact⟨rfl,v.out⟩
   ·have b4:(L1 != 0)=true:=by rw[bne_iff_ne];exact h0
    unfold sC at *
    go_wp2_with fail;go_ret;exact⟨rfl,H4.out.1⟩
end Go.Proofs.YtbdogaaooeoccaaGreatDoor.Lists
namespace Go.Proofs.YtbdogaaooeoccaaGreatDoor.Lists
open Go.ChangeShapes Go.WideShapes Go.ChangeAt Go.RowKit
open Go.ChangeMaps (open_string shut_string)

theorem lifted(os : Os)(c : os.Started)(H : Type)(enc : TypeId × Value -> H):
    ReturnsInHanded {} Tryz.checked os 4 .any (fun w args => (Rows.autoListsSpec.pre enc Tryz.prog Tryz.f4 [] false w args /\ laidMetH Tryz.prog qsa w) /\ sizedMet enc Tryz.prog Tryz.f4 (OpenSpec.ofChange Rows.autoListsSpec) false w args) (Rows.autoListsSpec.post enc Tryz.prog Tryz.f4 false true false false) := by
  refine returnsInHanded_of_change_and (C := Tryz.checked) (X := fun w _ => laidMetH Tryz.prog qsa w) (fun _ _ _ E h => h.of_heap E) own c (by kernel_rfl) Tryz.func4
    (ChangeSpec.witness_shaped (enc := enc) (C := Tryz.checked) (os := os) (X := fun w _ => laidMetH Tryz.prog qsa w) false (World.doorLaid Tryz.prog 192 os) #[.int .i64 0, .int .i64 0] 8 rfl (World.shaped_of_RefB (by kernel_rfl) (by kernel_rfl)) (by kernel_rfl) (by kernel_rfl) (by kernel_rfl) (qu3 os _)) ?_
  intro W d args s O i b l _ _ A _;have a : ∀(j : Nat) t v, Tryz.f4.params[j]? = some t -> args[j]? = some v -> Value.okWide Tryz.prog W .any d t v := b;have g := l;obtain⟨p, q, f, B, rfl, _, _⟩ := l;have k : DataW.TrodAll enc Tryz.prog W 0 (fun _ => true) true Tryz.f4.params.toList args.toList s p := f;rw[Tryz.params4]at k a;obtain⟨m, I, M, u, P, R, _, rfl, rfl, y, F⟩ := trodAll_cons k;obtain⟨n, J, N, x, Q, S, rfl, rfl, rfl, z, G⟩ := trodAll_cons F;obtain⟨rfl, rfl, rfl⟩ := trodAll_nil G
  obtain rfl : args = #[m, n] := by cases args; simp_all
  obtain⟨rfl, rfl⟩ := trodVars_none B;obtain⟨o, rfl, rfl, rfl, K⟩ := open_int Tryz.underlying3 (a 0 3 m rfl rfl) y;obtain⟨r, rfl, rfl, rfl, w1⟩ := open_int Tryz.underlying3 (a 1 3 n rfl rfl) z;clear f b;simp only[List.append_nil]at g
  refine(walk o r W (quk A)  ).mono fun e L ⟨D, bel⟩ => ?_
  subst D;exact⟨_, rfl, _, _, _, [], _, [], g, trodAll_mk1 (shut_bool Tryz.underlying4 _), (trodAll_cons_mk (shut_int Tryz.underlying3 K) (trodAll_cons_mk (shut_int Tryz.underlying3 w1) trodAll_mk0)), rfl, bel.frame _, fun h => by cases h⟩

theorem over: Rows.autoListsRow.holds Tryz.pinned (OpenSpec.ofChange Rows.autoListsSpec) :=
  OpenClaim.holds_of_wide 4 Tryz.f4 rfl rfl rfl rfl rfl rfl rfl ⟨rfl, rfl, rfl, rfl, rfl⟩ rfl rfl rfl rfl rfl (by kernel_rfl) Tryz.func4 (by kernel_rfl)
    (of_decide_eq_true (by kernel_rfl)) (by unfold Func.isWrapper; first | (rw[if_pos (by decide +kernel)]; kernel_rfl) | (rw[if_neg (by decide +kernel)]; exact⟨rfl, rfl⟩))
    (fun os a H enc _ => lifted os a H enc)

theorem card: Claim7.holds Tryz.pinned (.plain (OpenSpec.ofChange Rows.autoListsSpec)) Rows.autoListsCard :=
  Claim7.holds_tied_plain_at .later [] [.data, .data, .data, .sentinel, .sentinel] true (true, "a27ab39b3c8f99ea519f981189f302ed256bb7d79b1c747cbd43c342c5b3eb20") true
    over (fun _ h => by cases h) (by kernel_rfl) (fun _ h => by cases h) autoLists_row_tie rfl ⟨rfl, rfl⟩ (by kernel_rfl) rfl
    (fun f d g b => by
      obtain rfl : f = 4 := Option.some.inj ((show Tryz.prog.funcNamed "donatus/donatuslaw9.AutoLists" = some 4 by kernel_rfl).symm.trans g) |>.symm
      obtain rfl : d = Tryz.f4 := (Option.some.inj (Tryz.func4.symm.trans b)).symm
      exact⟨by kernel_rfl, fun j t c => by
        rw[Tryz.params4]at c
        have i : t ∈ ([3, 3] : List TypeId) := by simpa using Array.mem_of_getElem? c
        have a : (([3, 3] : List TypeId).all fun u => !Tryz.prog.wantsStandIn u) = true := by kernel_rfl
        exact(show Tryz.prog.wantsStandIn t = false by simpa using List.all_eq_true.1 a t i)⟩)
    (by kernel_rfl)

end Go.Proofs.YtbdogaaooeoccaaGreatDoor.Lists
namespace Go.Proofs.YtbdogaaooeoccaaGreatDoor
theorem autoLists_holds: Rows.AutoListsCardSaid := Lists.card
#print axioms autoLists_holds
end Go.Proofs.YtbdogaaooeoccaaGreatDoor
