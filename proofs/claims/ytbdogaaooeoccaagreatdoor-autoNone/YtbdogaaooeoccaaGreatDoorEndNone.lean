/-
  AutoNone: asked of no Auto, Len, Kernel, Items and Go tell nothing, so the call returns true and leaves all that was there as it was; it takes no argument, so its row sets no condition but what the package-level tables hold.
-/
import Derived.Test.YtbdogaaooeoccaaGreatDoorCards
import Derived.Test.YtbdogaaooeoccaaGreatDoorTie
import Derived.OpenShut
import Derived.ShutString
import Derived.ChangeOld
import Derived.Below
import Derived.SevenTiedAt
import Derived.Test.YtbdogaaooeoccaaGreatDoorOthNone
set_option maxHeartbeats 16000000
set_option maxRecDepth 100000
namespace Go.Proofs.YtbdogaaooeoccaaGreatDoor
open Go.RowKit
def uae (S:Sp) (x:It) (L:List It):List It:=match ahd S x with
 | none=>L
 | some z=>(rlo S z).foldl (fun L k=>if k=0 then L else yl L (k,0)) L
def clN (S:Sp) (K:List It):Nat->List It
 | 0=>K
 | f+1=>(clN S K f).foldl (fun A x=>uae S x A) (clN S K f)
def xr (S:Sp) (L:List It):Bool:=L.all fun x=>match ahd S x with
 | none=>true
 | some z=>(rlo S z).all fun k=>k == 0 || L.contains (k,0)
def yp:List It->Bool
 | []=>true
 | x :: l=>(match l with | []=>true | y :: _=>decide (ltI x y)) && yp l
theorem uad:∀{l:List It},yp l=true->Sor l
 | [],_=>List.Pairwise.nil
 | [x],_=>List.pairwise_singleton _ _
 | x :: y :: l,h=>by
  unfold yp at h;rw[Bool.and_eq_true,decide_eq_true_eq]at h;have a:=uad h.2;refine List.pairwise_cons.2 ⟨fun z b=>?_,a⟩
  rcases List.mem_cons.1 b with rfl | e
  ·exact h.1
  ·exact qpu h.1 ((List.pairwise_cons.1 a).1 z e)
def Gw (S:Sp) (K A B:List It):Prop:=Sor A->(∀x∈A,InC S K x)->Sor B/\(∀x∈B,InC S K x)/\∀x∈A,x∈B
theorem Gw.refl(S:Sp)(K A:List It):Gw S K A A:=fun a b=>⟨a,b,fun _ h=>h⟩
theorem Gw.trans{S:Sp}{K A B C:List It}(h:Gw S K A B)(k:Gw S K B C):Gw S K A C:=fun g i=>by
 obtain⟨a,b,c⟩:=h g i;obtain⟨d,e,f⟩:=k a b;exact⟨d,e,fun x j=>f x (c x j)⟩
theorem uap{S:Sp}{K:List It}{x:It}(q:InC S K x)(L:List It):Gw S K L (uae S x L):=by
 unfold uae
 cases m:ahd S x with
 | none=>exact Gw.refl _ _ _
 | some z =>
  have:∀(l:List Nat) (L:List It),(∀k∈l,∃r,S.rs[k]?=some r/\r.l=(z:Int))->Gw S K L (l.foldl (fun L k=>if k=0 then L else yl L (k,0)) L):=fun l=>by
   induction l with
   | nil=>intro L _;exact Gw.refl _ _ _
   | cons k l ih =>
    intro L g;rw[List.foldl_cons];refine Gw.trans ?_ (ih _ (fun j n=>g j (List.mem_cons_of_mem _ n)))
    by_cases f:k=0
    ·rw[if_pos f];exact Gw.refl _ _ _
    ·rw[if_neg f];intro h i;obtain⟨a,b⟩:=ual h (k,0);obtain⟨r,p,c⟩:=g k List.mem_cons_self;refine⟨a,fun y d=>?_,fun y d=>(b y).2 (.inr d)⟩
     rcases (b y).1 d with rfl | e
     ·exact InC.step x k r z q m (by omega) p c
     ·exact i y e
  exact this _ L (fun k o=>qe4.1 o)
theorem uag(S:Sp)(K:List It)(i:Sor K):∀f,Sor (clN S K f)/\(∀x∈clN S K f,InC S K x)/\∀x∈K,x∈clN S K f
 | 0=>⟨i,fun _ h=>InC.mem h,fun _ h=>h⟩
 | f+1=>by
  obtain⟨a,b,c⟩:=uag S K i f
  have:∀(l A:List It),(∀x∈l,InC S K x)->Gw S K A (l.foldl (fun A x=>uae S x A) A):=fun l=>by
   induction l with
   | nil=>intro A _;exact Gw.refl _ _ _
   | cons y l ih =>
    intro A k;rw[List.foldl_cons];exact Gw.trans (uap (k y List.mem_cons_self) A) (ih _ (fun j m=>k j (List.mem_cons_of_mem _ m)))
  obtain⟨d,e,g⟩:=this (clN S K f) (clN S K f) b a b;exact⟨d,e,fun x n=>g x (c x n)⟩
theorem uah{S:Sp}{K:List It}(j:Sor K){f:Nat}(h:xr S (clN S K f)=true):vq S K (clN S K f):=by
 obtain⟨a,b,c⟩:=uag S K j f;refine qrv a b c (fun y i r z n k o m l=>?_);unfold xr at h;have d:=List.all_eq_true.1 h y n;rw[k]at d;have g:=List.all_eq_true.1 d i (qe4.2 ⟨r,m,l⟩);rw[Bool.or_eq_true,beq_iff_eq]at g
 rcases g with e | e
 ·omega
 ·exact List.contains_iff_mem.1 e
def auC (S:Sp) (f n:Nat):Nat->Option (List (List It) × List Int)
 | 0=>some ([[(0,0)]],[])
 | t+1=>match auC S f n t with
  | none=>none
  | some (ks,g) =>
   if n * ks.length<=t then some (ks,g) else
    if (xr S (clN S ((ks[t / n]?).getD []) f) && yp ((ks[t / n]?).getD []))=true then
     let k:=nxt S (clN S ((ks[t / n]?).getD []) f) (t % n)
     if k=[] then some (ks,g++[-1]) else
      match fndK ks k with
      | some j=>some (ks,g++[(j:Int)])
      | none=>if 120<=ks.length then none else some (ks++[k],g++[(ks.length:Int)])
    else none
theorem uai{S:Sp}{C:List It->List It}(d:CloF S C)(f n:Nat):∀(t:Nat) (r:List (List It) × List Int),auC S f n t=some r->au S C n t=some r
 | 0,r,h=>h
 | t+1,r,h=>by
  unfold auC at h;unfold au
  cases c:auC S f n t with
  | none=>rw[c]at h;cases h
  | some p =>
   obtain⟨a,g⟩:=p;rw[c]at h;rw[uai d f n t _ c];simp only at h ⊢
   by_cases hd:n * a.length<=t
   ·rw[if_pos hd]at h ⊢;exact h
   ·rw[if_neg hd]at h ⊢
    by_cases b:(xr S (clN S ((a[t / n]?).getD []) f) && yp ((a[t / n]?).getD []))=true
    ·rw[if_pos b]at h;rw[Bool.and_eq_true]at b;rw[d _ _ (uah (uad b.2) b.1)]
     by_cases k:nxt S (clN S ((a[t / n]?).getD []) f) (t % n)=[]
     ·rw[if_pos k]at h ⊢;exact h
     ·rw[if_neg k]at h ⊢
      cases i:fndK a (nxt S (clN S ((a[t / n]?).getD []) f) (t % n)) with
      | some j=>rw[i]at h;exact h
      | none =>
       rw[i]at h;simp only at h ⊢
       by_cases l:120<=a.length
       ·rw[if_pos l]at h;cases h
       ·rw[if_neg l]at h ⊢;exact h
    ·rw[if_neg b]at h;cases h
theorem uaj{S:Sp}{K L a:List It}(h:vq S K L)(k:vq S K a):L=a:=qm3 h.1 k.1 (fun x=>(h.2 x).trans (k.2 x).symm)
def ksS:List (List It):=[[(0,0)],[(3,1)],[(0,1),(1,1),(2,1)],[(1,2)],[(2,2)],[(1,1),(1,3),(2,1)],[(1,1),(2,1),(2,3)]]
def gS:List Int:=[1,-1,-1,-1,2,-1,-1,-1,-1,-1,-1,3,4,-1,-1,1,-1,-1,-1,5,1,-1,-1,-1,6,-1,3,4,-1,-1,-1,3,4,-1,-1]
theorem yr:vk (spG q9) 5 ksS gS:=fun C a=>⟨35,uai a 3 5 35 _ (by rw[x8];kernel_rfl),by decide⟩
theorem uam:vq (spG q9) [(0,0)] [(0,0),(1,0),(2,0),(3,0)]:=by
 have h:=uah (S:=spG q9) (K:=[(0,0)]) (List.pairwise_singleton _ _) (f:=3) (by rw[x8];kernel_rfl)
 have e:clN (spG q9) [(0,0)] 3=[(0,0),(1,0),(2,0),(3,0)]:=by rw[x8];kernel_rfl
 rw[e]at h;exact h
theorem xp:gAt 5 7 gS 0 0=1/\gAt 5 7 gS 0 4=2/\gAt 5 7 gS 0 1=-1/\gAt 5 7 gS 2 1=3:=⟨by kernel_rfl,by kernel_rfl,by kernel_rfl,by kernel_rfl⟩
theorem uaq{w j:World}{e:Ending}(h:BO w (spG q9) 5 e j):∃b f i a c,e=.returned (.tuple #[.pointer (some ⟨b,0,none⟩),.int .i64 0])/\AM w.heap.size j b f i a c/\OA (spG q9) 5 a c gS (a.length * 5+0)/\Below w.heap.size w j/\a.length=7/\(∃s,a[0]?=some s/\s.K.length=1/\s.L.length=4)/\∃s,a[2]?=some s:=by
 rcases h with ⟨-,h,-⟩ | ⟨b,f,i,a,c,g,h1,h2,h3,h4⟩
 ·exact(uao yr h).elim
 ·obtain⟨k,o⟩:=uan h3.fin yr;subst o
  have q:a.length=7:=by
   have:=congrArg List.length k;rw[List.length_map]at this;exact this
  refine⟨b,f,i,a,c,h1,h2,h3,h4,q,?_,⟨_,List.getElem?_eq_getElem (by omega)⟩⟩
  obtain⟨s,d⟩:∃s,a[0]?=some s:=⟨_,List.getElem?_eq_getElem (by omega)⟩
  have n:s.K=[(0,0)]:=by
   have:=congrArg (fun l=>l[0]?) k;simp only[List.getElem?_map,d]at this;exact Option.some.inj this
  have m:=(h3.cs s (List.mem_of_getElem? d)).1;rw[n]at m;have p:=uaj m uam;exact⟨s,d,by rw[n];rfl,by rw[p];rfl⟩
theorem uaa(w:World)(a:Pow w):Calls Tryz.prog 19 #[] w fun e d=>e=.returned (.bool true)/\Below w.heap.size w d:=by
 have b:=hid (qt9 w a);clear a;go_enter Tryz.func19,Tryz.ntmps19;go_wp2_with fail;refine b.out.mono ?_;rintro e V ⟨rfl,c⟩;go_wp2_with fail;go_ret;exact⟨rfl,c⟩
theorem uab(w:World)(hp:Pow w):Calls Tryz.prog 8 #[] w fun e a=>e=.returned (.bool true)/\Below w.heap.size w a:=by
 have HP:=hid hp;clear hp
 have K:Hid (∀V:World,Calls Tryz.prog 18 #[] V fun e a=>∃C D b d,e=.returned (.agg #[.slice C 3 D,.string ⟨#[]⟩,.int .i64 0,.slice b 3 d])/\(∃qs,OwnG a V.heap.size ⟨C,D,b,d⟩ q9 qs)/\Below V.heap.size V a):=fun V=>(qdi V).mono fun e a ⟨⟨C,D,b,d⟩,qs,h1,h2,h3⟩=>⟨C,D,b,d,h1,⟨qs,h2⟩,h3⟩
 go_enter Tryz.func8,Tryz.ntmps8;go_wp2_with fail;refine(K.out _).mono ?_;rintro e V1 ⟨C,D,a3,a4,rfl,a0,L⟩
 have HC:Hid (Calls Tryz.prog 9 #[.agg #[.slice C 3 D,.string ⟨#[]⟩,.int .i64 0,.slice a3 3 a4]] V1 fun e a=>∃m n k l h j b d,e=.returned (.tuple #[.agg #[.int .i64 3,.int .i64 1,.int .i64 4,.int .i64 0,.slice m 5 n,.slice k 3 l,.slice h 3 j,.slice b 4 d],.int .i64 0])/\IsSp a ⟨m,n,k,l,h,j,b,d⟩ (spG q9)/\Below V1.heap.size V1 a):=by
  obtain⟨qs,ho⟩:=a0;exact qjj V1 ⟨C,D,a3,a4⟩ (ho.isG qap)
 have E:=hid L;clear a0 L K;go_wp2_with fail;refine HC.out.mono ?_;rintro e A ⟨m,n,k,l,h,j,b,d,rfl,hs,M⟩;have hv:Below A.heap.size A (A.alloc (.cells #[.int .i64 3,.int .i64 1,.int .i64 4,.int .i64 0,.slice m 5 n,.slice k 3 l,.slice h 3 j,.slice b 4 d] 31)):=qb _ _;have hx:(A.alloc (.cells #[.int .i64 3,.int .i64 1,.int .i64 4,.int .i64 0,.slice m 5 n,.slice k 3 l,.slice h 3 j,.slice b 4 d] 31)).heap[A.heap.size]?=some (.cells #[.int .i64 3,.int .i64 1,.int .i64 4,.int .i64 0,.slice m 5 n,.slice k 3 l,.slice h 3 j,.slice b 4 d] 31 (0,0)):=heap_alloc_new _ _;have f:=hid3 (hs.below hv) hx (qd (qd E.out M) hv);clear hs hv hx M HC E
 go_upto_region 2 with fail
 generalize A.alloc (.cells #[.int .i64 3,.int .i64 1,.int .i64 4,.int .i64 0,.slice m 5 n,.slice k 3 l,.slice h 3 j,.slice b 4 d] 31)=o at f ⊢;generalize A.heap.size=v at f ⊢
 have k0:o.cell? ⟨v,0,none⟩=some (.int .i64 3):=by rw[qe f.out.2.1];rfl
 have k1:o.cell? ⟨v,1,none⟩=some (.int .i64 1):=by rw[qe f.out.2.1];rfl
 have k2:o.cell? ⟨v,2,none⟩=some (.int .i64 4):=by rw[qe f.out.2.1];rfl
 have k3:o.cell? ⟨v,3,none⟩=some (.int .i64 0):=by rw[qe f.out.2.1];rfl
 have k4:o.cell? ⟨v,4,none⟩=some (.slice m 5 n):=by rw[qe f.out.2.1];rfl
 have k5:o.cell? ⟨v,5,none⟩=some (.slice k 3 l):=by rw[qe f.out.2.1];rfl
 have k6:o.cell? ⟨v,6,none⟩=some (.slice h 3 j):=by rw[qe f.out.2.1];rfl
 have k7:o.cell? ⟨v,7,none⟩=some (.slice b 4 d):=by rw[qe f.out.2.1];rfl
 have HN:Hid (Calls Tryz.prog 16 #[.agg #[.int .i64 3,.int .i64 1,.int .i64 4,.int .i64 0,.slice m 5 n,.slice k 3 l,.slice h 3 j,.slice b 4 d]] o fun e a=>BO o (spG q9) 5 e a):=by
  have Z:=quy qhw;rw[qt8]at Z;have hc:=qul o ⟨m,n,k,l,h,j,b,d⟩ (spG q9) 5 Z f.out.1
  have e1:sv ⟨m,n,k,l,h,j,b,d⟩ (spG q9)=.agg #[.int .i64 3,.int .i64 1,.int .i64 4,.int .i64 0,.slice m 5 n,.slice k 3 l,.slice h 3 j,.slice b 4 d]:=by
   unfold sv sC;rw[x8];rfl
  rw[e1]at hc;exact hc
 go_wp2_with fail;refine HN.out.mono ?_;intro e V4 U;obtain⟨ab,sa,sc,ss,ld,rfl,O,a1,N,B,⟨s0,p,X,Y⟩,⟨s2,a2⟩⟩:=uaq U;clear k0 k1 k2 k3 k4 k5 k6 k7 HN U;have H4:=hid (qd f.out.2.2 N)
 have y:Hid (∀V,Below V4.heap.size V4 V->(Calls Tryz.prog 12 #[.pointer (some ⟨ab,0,none⟩)] V fun e a=>e=.returned (.int .i64 7)/\a=V)/\(Calls Tryz.prog 14 #[.pointer (some ⟨ab,0,none⟩),.int .i64 0] V fun e a=>∃g c,e=.returned (.slice (some ⟨g,0,none⟩) 4 c)/\Below V.heap.size V a)/\(Calls Tryz.prog 13 #[.pointer (some ⟨ab,0,none⟩),.int .i64 0] V fun e a=>∃g c,e=.returned (.slice (some ⟨g,0,none⟩) 1 c)/\Below V.heap.size V a)/\∀(i:Nat) (x r:Int),(i=0\/i=2)->(0<=x/\x<=4)->gAt 5 7 gS i x=r->Calls Tryz.prog 15 #[.pointer (some ⟨ab,0,none⟩),.int .i64 (i:Int),.int .i64 x] V fun e a=>e=.returned (.int .i64 r)/\Below V.heap.size V a):=fun V hV=>by
  have hA:=O.below hV;refine⟨?_,?_,?_,fun i x r hi hx hr=>?_⟩
  ·have:=qp4 hA;rw[B]at this;exact this
  ·refine(qu4 hA p (by omega) (by omega)).mono ?_;rintro e a ⟨g,c,rfl,-,hb⟩;rw[Y];exact⟨g,c,rfl,hb⟩
  ·refine(qu2 hA p (by omega) (by omega)).mono ?_;rintro e a ⟨g,c,rfl,-,hb⟩;rw[X];exact⟨g,c,rfl,hb⟩
  ·obtain⟨s,hs⟩:∃s,ss[i]?=some s:=by
    rcases hi with rfl | rfl
    ·exact⟨_,p⟩
    ·exact⟨_,a2⟩
   have:=qu8 hA a1 hs x (by omega);rw[B,hr]at this;exact this
 have a5:=hid (HP.out.below H4.out);clear O a1 N B p X Y a2 f;go_wp2_with fail;refine(uaa V4 a5.out).mono ?_;rintro e V5 ⟨rfl,P⟩;have z:=hid P;clear P;go_wp2_with fail;refine((y.out V5 z.out).1).mono ?_;rintro e a8 ⟨rfl,rfl⟩;go_wp2_with fail;refine((y.out _ z.out).2.1).mono ?_;rintro e V6 ⟨g6,c6,rfl,Q⟩;have G:=hid (qd z.out Q);clear Q;go_wp2_with fail;refine((y.out _ G.out).2.2.1).mono ?_;rintro e V7 ⟨g7,c7,rfl,R⟩;have H:=hid (qd G.out R);clear R;go_wp2_with fail;refine((y.out _ H.out).2.2.2 0 0 1 (.inl rfl) (by decide) xp.1).mono ?_;rintro e V8 ⟨rfl,S⟩;have I:=hid (qd H.out S);clear S;go_wp2_with fail;refine((y.out _ I.out).2.2.2 0 4 2 (.inl rfl) (by decide) xp.2.1).mono ?_;rintro e V9 ⟨rfl,T⟩;have J:=hid (qd I.out T);clear T;go_wp2_with fail;refine((y.out _ J.out).2.2.2 0 1 (-1) (.inl rfl) (by decide) xp.2.2.1).mono ?_;rintro e a6 ⟨rfl,t⟩;have q:=hid (qd J.out t);clear t;go_wp2_with fail;refine((y.out _ q.out).2.2.2 2 1 3 (.inr rfl) (by decide) xp.2.2.2).mono ?_;rintro e a7 ⟨rfl,u⟩;have F:=hid (qd q.out u);clear u;go_wp2_with fail;go_ret;exact⟨rfl,H4.out.trans (F.out.mono H4.out.size)⟩
end Go.Proofs.YtbdogaaooeoccaaGreatDoor
namespace Go.Proofs.YtbdogaaooeoccaaGreatDoor.None
open Go.RowKit
theorem walk(w:World)(k:Pow w):Calls Tryz.prog 5 #[] w fun e g=>e=.returned (.bool true)/\Below w.heap.size w g:=by
 have a:Hid (∀V:World,Calls Tryz.prog 12 #[.pointer none] V fun e g=>e=.returned (.int .i64 ((0:Nat):Int))/\g=V):=fun V=>qu6 V
 go_enter Tryz.func5,Tryz.ntmps5;go_wp2_with fail;refine(uab w k).mono ?_;rintro e h ⟨rfl,b⟩;go_wp2_with fail;refine(qu6 h).mono ?_;rintro e w1 ⟨rfl,rfl⟩;go_wp2_with fail;refine(qum w1 0 0 (fun V _=>a.out V) (.inr (by decide))).mono ?_;rintro e i ⟨rfl,c⟩;go_wp2_with fail;refine(qu1 i 0 0 (fun V _=>a.out V) (.inr (by decide))).mono ?_;rintro e j ⟨rfl,d⟩;go_wp2_with fail;refine(qu7 j 0 0 (by decide) 0 (fun V _=>a.out V) (.inr (by decide))).mono ?_;rintro e l ⟨rfl,f⟩;go_wp2_with fail;go_ret;exact⟨rfl,qd (qd (qd b c) d) f⟩
end Go.Proofs.YtbdogaaooeoccaaGreatDoor.None
namespace Go.Proofs.YtbdogaaooeoccaaGreatDoor.None
open Go.ChangeShapes Go.WideShapes Go.ChangeAt Go.RowKit
open Go.ChangeMaps (open_string shut_string)

theorem lifted(os : Os)(b : os.Started)(H : Type)(enc : TypeId × Value -> H):
    ReturnsInHanded {} Tryz.checked os 5 .any (fun w args => (Rows.autoNoneSpec.pre enc Tryz.prog Tryz.f5 [] false w args /\ laidMetH Tryz.prog qsa w) /\ sizedMet enc Tryz.prog Tryz.f5 (OpenSpec.ofChange Rows.autoNoneSpec) false w args) (Rows.autoNoneSpec.post enc Tryz.prog Tryz.f5 false true false false) := by
  refine returnsInHanded_of_change_and (C := Tryz.checked) (X := fun w _ => laidMetH Tryz.prog qsa w) (fun _ _ _ u h => h.of_heap u) own b (by kernel_rfl) Tryz.func5
    (ChangeSpec.witness_shaped (enc := enc) (C := Tryz.checked) (os := os) (X := fun w _ => laidMetH Tryz.prog qsa w) false (World.doorLaid Tryz.prog 192 os) #[] 8 rfl (World.shaped_of_RefB (by kernel_rfl) (by kernel_rfl)) (by kernel_rfl) (by kernel_rfl) (by kernel_rfl) (qu3 os _)) ?_
  intro W c args n y i a m _ _ o _;have g : ∀(j : Nat) t v, Tryz.f5.params[j]? = some t -> args[j]? = some v -> Value.okWide Tryz.prog W .any c t v := a;have f := m;obtain⟨p, q, d, r, rfl, _, _⟩ := m;have l : DataW.TrodAll enc Tryz.prog W 0 (fun _ => true) true Tryz.f5.params.toList args.toList n p := d;rw[Tryz.params5]at l g;obtain⟨k, rfl, rfl⟩ := trodAll_nil l
  obtain rfl : args = #[] := by cases args; simp_all
  obtain⟨rfl, rfl⟩ := trodVars_none r;clear d a;simp only[List.append_nil]at f
  refine(walk  W (quk o)  ).mono fun e x ⟨s, bel⟩ => ?_
  subst s;exact⟨_, rfl, _, _, _, [], _, [], f, trodAll_mk1 (shut_bool Tryz.underlying4 _), trodAll_mk0, rfl, bel.frame _, fun h => by cases h⟩

theorem over: Rows.autoNoneRow.holds Tryz.pinned (OpenSpec.ofChange Rows.autoNoneSpec) :=
  OpenClaim.holds_of_wide 5 Tryz.f5 rfl rfl rfl rfl rfl rfl rfl ⟨rfl, rfl, rfl, rfl, rfl⟩ rfl rfl rfl rfl rfl (by kernel_rfl) Tryz.func5 (by kernel_rfl)
    (of_decide_eq_true (by kernel_rfl)) (by unfold Func.isWrapper; first | (rw[if_pos (by decide +kernel)]; kernel_rfl) | (rw[if_neg (by decide +kernel)]; exact⟨rfl, rfl⟩))
    (fun os a H enc _ => lifted os a H enc)

theorem card: Claim7.holds Tryz.pinned (.plain (OpenSpec.ofChange Rows.autoNoneSpec)) Rows.autoNoneCard :=
  Claim7.holds_tied_plain_at .later [] [.data, .data, .data, .sentinel, .sentinel] true (true, "a27ab39b3c8f99ea519f981189f302ed256bb7d79b1c747cbd43c342c5b3eb20") true
    over (fun _ h => by cases h) (by kernel_rfl) (fun _ h => by cases h) autoNone_row_tie rfl ⟨rfl, rfl⟩ (by kernel_rfl) rfl
    (fun f d g b => by
      obtain rfl : f = 5 := Option.some.inj ((show Tryz.prog.funcNamed "donatus/donatuslaw9.AutoNone" = some 5 by kernel_rfl).symm.trans g) |>.symm
      obtain rfl : d = Tryz.f5 := (Option.some.inj (Tryz.func5.symm.trans b)).symm
      exact⟨by kernel_rfl, fun j t c => by
        rw[Tryz.params5]at c
        have i : t ∈ ([] : List TypeId) := by simpa using Array.mem_of_getElem? c
        have a : (([] : List TypeId).all fun u => !Tryz.prog.wantsStandIn u) = true := by kernel_rfl
        exact(show Tryz.prog.wantsStandIn t = false by simpa using List.all_eq_true.1 a t i)⟩)
    (by kernel_rfl)

end Go.Proofs.YtbdogaaooeoccaaGreatDoor.None
namespace Go.Proofs.YtbdogaaooeoccaaGreatDoor
theorem autoNone_holds: Rows.AutoNoneCardSaid := None.card
#print axioms autoNone_holds
end Go.Proofs.YtbdogaaooeoccaaGreatDoor
