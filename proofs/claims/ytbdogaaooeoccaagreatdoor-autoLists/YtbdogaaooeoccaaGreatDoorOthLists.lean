/- Texts that the proof of AutoLists stands on beside those. -/
import Derived.Lib.SliceRun
import Derived.Test.YtbdogaaooeoccaaGreatDoorPrf16
set_option maxHeartbeats 16000000
set_option maxRecDepth 100000
namespace Go.Proofs.YtbdogaaooeoccaaGreatDoor
open Go.RowKit
theorem ubs(G:Gm):∃k,OfR G k:=by
 unfold OfR
 rcases Classical.em (MayP G) with h1 | h1
 ·rcases Classical.em (vo G) with h2 | h2
  ·exact⟨6,.inr (.inl ⟨rfl,h1,h2⟩)⟩
  ·rcases Classical.em (NmP G) with h3 | h3
   ·rcases Classical.em (qbv (spG G)) with h4 | h4
    ·exact⟨8,.inr (.inr (.inr (.inl ⟨rfl,h1,h2,h3,h4⟩)))⟩
    ·exact⟨0,.inr (.inr (.inr (.inr ⟨rfl,h1,h2,h3,h4⟩)))⟩
   ·exact⟨7,.inr (.inr (.inl ⟨rfl,h1,h2,h3⟩))⟩
 ·exact⟨1,.inl ⟨rfl,h1⟩⟩
section
variable {S:Sp} {C:List It->List It} {n t i y:Nat} {ks:List (List It)} {g:List Int} {K:List It}
theorem uab(h:au S C n t=some (ks,g))(hd:n * ks.length<=t):∀u,au S C n (t+u)=some (ks,g)
 | 0=>h
 | u+1=>by
  have a:=uab h hd u;rw[<-Nat.add_assoc,au,a];simp only;rw[if_pos (by omega)]
theorem uaw(h:au S C n t=none):∀u,au S C n (t+u)=none
 | 0=>h
 | u+1=>by
  have a:=uaw h u;rw[<-Nat.add_assoc,au,a]
def vk (S:Sp) (n:Nat) (ks:List (List It)) (g:List Int):Prop:=∀C,CloF S C->∃t,au S C n t=some (ks,g)/\n * ks.length<=t
theorem uax{c:List (List It)}{d:List Int}(h:vk S n ks g)(k:vk S n c d):ks=c/\g=d:=by
 obtain⟨C,f⟩:=qua S;obtain⟨t,i,j⟩:=h C f;obtain⟨u,l,m⟩:=k C f;have a:=uab i j u;have b:=uab l m t;rw[Nat.add_comm]at b;rw[a]at b
 injection b with b
 injection b with b1 b2
 exact⟨b1,b2⟩
theorem uaf(h:vk S n ks g)(k:Ovr9 S n):False:=by
 obtain⟨C,c⟩:=qua S;obtain⟨t,d,f⟩:=h C c;obtain⟨u,i⟩:=k C c;have a:=uab d f u;have b:=uaw i t;rw[Nat.add_comm]at b;rw[a]at b
 cases b
end
def pat (l:List It) (x:It):Nat:=(l.takeWhile (fun y=>decide (ltI y x))).length
def xp (l:List It) (x:It):List It:=if l[pat l x]?=some x then l else l.take (pat l x)++x :: l.drop (pat l x)
theorem uaj{l:List It}{x:It}{k:Nat}(d:∀j y,j<k->l[j]?=some y->ltI y x)(f:∀y,l[k]?=some y->¬ltI y x)(b:k<=l.length):pat l x=k:=by
 unfold pat
 induction l generalizing k with
 | nil=>simp at b;subst b;rfl
 | cons a l ih =>
  cases k with
  | zero =>
   have:=f a rfl;rw[List.takeWhile_cons_of_neg (by rw[decide_eq_true_eq];exact this)]
   rfl
  | succ k =>
   have:=d 0 a (Nat.succ_pos _) rfl;rw[List.takeWhile_cons_of_pos (by rw[decide_eq_true_eq];exact this),List.length_cons]
   rw[ih (k:=k) (fun j y g c=>d (j+1) y (Nat.succ_lt_succ g) (by rw[List.getElem?_cons_succ];exact c)) (fun y c=>f y (by rw[List.getElem?_cons_succ];exact c)) (by rw[List.length_cons]at b;omega)]
theorem ubt(l:List It)(x:It):pat l x<=l.length:=by
 unfold pat;exact(List.takeWhile_sublist _).length_le
theorem ube(l:List It)(x:It):l.take (pat l x)=l.takeWhile (fun y=>decide (ltI y x)):=by
 have h:l.takeWhile (fun y=>decide (ltI y x)) <+: l:=List.takeWhile_prefix _;exact(List.prefix_iff_eq_take.1 h).symm
theorem ua3{l:List It}{x y:It}(h:y∈l.take (pat l x)):ltI y x:=by
 rw[ube]at h
 have:∀(l:List It) (p:It->Bool) (y:It),y∈l.takeWhile p->p y=true:=fun l p=>by
  induction l with
  | nil=>intro y b;cases b
  | cons a l ih =>
   intro y b
   cases c:p a with
   | false=>rw[List.takeWhile_cons_of_neg (by rw[c];decide)]at b;cases b
   | true =>
    rw[List.takeWhile_cons_of_pos c]at b
    rcases List.mem_cons.1 b with rfl | e
    ·exact c
    ·exact ih y e
 have:=this l _ y h;rw[decide_eq_true_eq]at this;exact this
theorem ubu{l:List It}{x y:It}(h:l[pat l x]?=some y):¬ltI y x:=by
 unfold pat at h
 induction l with
 | nil=>cases h
 | cons a l ih =>
  by_cases e:ltI a x
  ·rw[List.takeWhile_cons_of_pos (by rw[decide_eq_true_eq];exact e),List.length_cons,List.getElem?_cons_succ]at h
   exact ih h
  ·rw[List.takeWhile_cons_of_neg (by rw[decide_eq_true_eq];exact e)]at h
   simp at h;subst h;exact e
theorem uak{l:List It}(h:Sor l)(x:It):Sor (xp l x)/\∀y,y∈xp l x↔y=x\/y∈l:=by
 unfold xp
 by_cases e:l[pat l x]?=some x
 ·rw[if_pos e];refine⟨h,fun y=>⟨.inr,?_⟩⟩;rintro(rfl | c)
  ·exact List.mem_of_getElem? e
  ·exact c
 ·rw[if_neg e];have m:l=l.take (pat l x)++l.drop (pat l x):=(List.take_append_drop _ _).symm
  have hd:∀y∈l.drop (pat l x),ltI x y:=fun y c=>by
   rcases Nat.lt_or_ge (pat l x) l.length with hl | hl
   ·have f:l[pat l x]?=some l[pat l x]:=List.getElem?_eq_getElem hl
    have g:ltI x l[pat l x]:=Classical.byContradiction fun k=>e (by rw[f,qtd (ubu f) k])
    rw[List.drop_eq_getElem_cons hl]at c
    rcases List.mem_cons.1 c with rfl | c
    ·exact g
    ·have j:Sor (l.drop (pat l x)):=List.Pairwise.sublist (List.drop_sublist _ _) h;rw[List.drop_eq_getElem_cons hl]at j;exact qpu g ((List.pairwise_cons.1 j).1 y c)
   ·rw[List.drop_eq_nil_of_le hl]at c;cases c
  constructor
  ·unfold Sor;rw[List.pairwise_append];refine⟨List.Pairwise.sublist (List.take_sublist _ _) h,List.pairwise_cons.2 ⟨hd,List.Pairwise.sublist (List.drop_sublist _ _) h⟩,fun a i b d=>?_⟩
   rcases List.mem_cons.1 d with rfl | d
   ·exact ua3 i
   ·exact qpu (ua3 i) (hd b d)
  ·intro y;rw[List.mem_append,List.mem_cons]
   have:y∈l↔y∈l.take (pat l x)\/y∈l.drop (pat l x):=by
    conv=>lhs;rw[m]
    rw[List.mem_append]
   rw[this]
   constructor
   ·rintro(a | a | a)
    ·exact .inr (.inl a)
    ·exact .inl a
    ·exact .inr (.inr a)
   ·rintro(a | a | a)
    ·exact .inr (.inl a)
    ·exact .inl a
    ·exact .inr (.inr a)
theorem ubf(l:List It)(x:It):(xp l x=l/\l[pat l x]?=some x)\/(xp l x).length=l.length+1:=by
 unfold xp
 by_cases e:l[pat l x]?=some x
 ·rw[if_pos e];exact .inl ⟨rfl,e⟩
 ·rw[if_neg e];refine .inr ?_;rw[List.length_append,List.length_cons,List.length_take,List.length_drop];have:=ubt l x;omega
theorem ua4{l:List It}{x:It}(h:∀y∈l,ltI y x):xp l x=l++[x]:=by
 have e:pat l x=l.length:=uaj (fun j y _ a=>h y (List.mem_of_getElem? a)) (fun y a=>by rw[List.getElem?_eq_none (Nat.le_refl _)]at a;cases a) (Nat.le_refl _)
 unfold xp;rw[e,List.getElem?_eq_none (Nat.le_refl _),if_neg (by simp),List.take_length,List.drop_length]
theorem uaa{S:Sp}{L:List It}(h:Sor L){i:Nat}{x:It}(g:L[i]?=some x)(y:Nat):nxt S (L.take (i+1)) y=if ahd S x=some y then xp (nxt S (L.take i) y) (x.1,x.2+1) else nxt S (L.take i) y:=by
 obtain⟨b,rfl⟩:=List.getElem?_eq_some_iff.1 g;rw[List.take_succ_eq_append_getElem b,qrw]
 by_cases e:ahd S L[i]=some y
 ·rw[if_pos e,if_pos e];refine(ua4 fun z j=>?_).symm;obtain⟨a,d,rfl,f,-⟩:=qm4.1 j
  have:ltI (a,d) L[i]:=by
   have c:Sor (L.take (i+1)):=List.Pairwise.sublist (List.take_sublist _ _) h;rw[List.take_succ_eq_append_getElem b]at c;exact(List.pairwise_append.1 c).2.2 _ f _ (by simp)
  unfold ltI at *
  simp only at *
  omega
 ·rw[if_neg e,if_neg e,List.append_nil]
structure RI (S:Sp) (K out:List It) (m i:Nat):Prop where
 so:Sor out
 pre:∀x∈K,x∈out
 inc:∀x∈out,InC S K x
 le:m<=out.length
 dn:out.length=m->∀(j:Nat) (x:It) (q:Nat) (r:SR) (z:Nat),j<i->out[j]?=some x->ahd S x=some z->0<q->S.rs[q]?=some r->r.l=(z:Int)->(q,0)∈out
structure RJ (S:Sp) (K out:List It) (m i:Nat) (z k:Nat):Prop where
 ri:RI S K out m i
 rz:∃x,InC S K x/\ahd S x=some z
 rx:out.length=m->∃x,out[i]?=some x/\ahd S x=some z
 dk:out.length=m->∀(q:Nat) (r:SR),0<q->q<k->S.rs[q]?=some r->r.l=(z:Int)->(q,0)∈out
theorem ual{S:Sp}{K:List It}(h:KerP S K):RI S K K 0 0 :=
 ⟨h.so,fun _ h=>h,fun _ h=>InC.mem h,Nat.zero_le _,fun _ j x q r z a=>by omega⟩
theorem RI.pass{S:Sp}{K out:List It}{m i:Nat}(h:RI S K out m i):RI S K out out.length 0 :=
 ⟨h.so,h.pre,h.inc,Nat.le_refl _,fun _ j x q r z a=>by omega⟩
theorem RI.skip{S:Sp}{K out:List It}{m i:Nat}(h:RI S K out m i){x:It}(n:out[i]?=some x)(g:∀z,ahd S x=some z->∀(q:Nat) (r:SR),0<q->S.rs[q]?=some r->r.l≠(z:Int)):RI S K out m (i+1):=by
 refine⟨h.so,h.pre,h.inc,h.le,fun k j y q r z o a f c d b=>?_⟩
 rcases Nat.lt_or_ge j i with e | e
 ·exact h.dn k j y q r z e a f c d b
 ·have e:j=i:=by omega
  subst e;rw[n]at a
  injection a with a
  subst a;exact absurd b (g z f q r c d)
theorem RI.into{S:Sp}{K out:List It}{m i:Nat}(h:RI S K out m i){x:It}(b:out[i]?=some x){z:Nat}(a:ahd S x=some z):RJ S K out m i z 1 :=
 ⟨h,⟨x,h.inc x (List.mem_of_getElem? b),a⟩,fun _=>⟨x,b,a⟩,fun _ q r c d=>by omega⟩
theorem RJ.other{S:Sp}{K out:List It}{m i z k:Nat}(h:RJ S K out m i z k)(d:∀r,S.rs[k]?=some r->r.l≠(z:Int)):RJ S K out m i z (k+1):=by
 refine⟨h.ri,h.rz,h.rx,fun f q r c g b a=>?_⟩
 rcases Nat.lt_or_ge q k with e | e
 ·exact h.dk f q r c e b a
 ·have e:q=k:=by omega
  subst e;exact absurd a (d r b)
theorem RJ.put{S:Sp}{K out:List It}{m i z k:Nat}(h:RJ S K out m i z k)(v:0<k){r:SR}(D:S.rs[k]?=some r)(B:r.l=(z:Int)):RJ S K (xp out (k,0)) m i z (k+1):=by
 obtain⟨A,f⟩:=uak h.ri.so (k,0);have b:=ubf out (k,0);have o:=h.ri.le;obtain⟨x,u,d⟩:=h.rz
 have a:(xp out (k,0)).length=m->xp out (k,0)=out/\out.length=m:=fun e=>by
  rcases b with ⟨e',-⟩ | e'
  ·rw[e']at e;exact⟨e',e⟩
  ·omega
 refine⟨⟨A,fun y t=>(f y).2 (.inr (h.ri.pre y t)),fun y t=>?_,?_,fun c=>?_⟩,⟨x,u,d⟩,fun c=>?_,fun c q E p C s n=>?_⟩
 ·rcases (f y).1 t with rfl | e
  ·exact InC.step x k r z u d v D B
  ·exact h.ri.inc y e
 ·rcases b with ⟨e,-⟩ | e
  ·rw[e];exact o
  ·omega
 ·obtain⟨g,j⟩:=a c;rw[g];exact h.ri.dn j
 ·obtain⟨g,j⟩:=a c;rw[g];exact h.rx j
 ·rcases Nat.lt_or_ge q k with e | e
  ·exact(f _).2 (.inr (h.dk (a c).2 q E p e s n))
  ·have e:q=k:=by omega
   subst e;exact(f _).2 (.inl rfl)
theorem RJ.out{S:Sp}{K out:List It}{m i z k:Nat}(h:RJ S K out m i z k)(s:S.rs.length<=k):RI S K out m (i+1):=by
 refine⟨h.ri.so,h.ri.pre,h.ri.inc,h.ri.le,fun c j y q r o p a b l d g=>?_⟩
 rcases Nat.lt_or_ge j i with e | e
 ·exact h.ri.dn c j y q r o e a b l d g
 ·have e:j=i:=by omega
  subst e;obtain⟨x,n,f⟩:=h.rx c;rw[n]at a
  injection a with a
  subst a;rw[f]at b
  injection b with b
  subst b;have:=(List.getElem?_eq_some_iff.1 d).1;exact h.dk c q r l (by omega) d g
theorem RI.done{S:Sp}{K out:List It}{m i:Nat}(h:RI S K out m i)(d:out.length=m)(l:m<=i):vq S K out :=
 qrv h.so h.inc h.pre (fun y q r z k b f g c=>by
  obtain⟨j,a⟩:=List.mem_iff_getElem?.1 k;have:=(List.getElem?_eq_some_iff.1 a).1
  exact h.dn d j y q r z (by omega) a b f g c)
theorem uam:∀(l:List It) (i:Nat),(itC l).take (i * 2)=itC (l.take i)
 | [],i=>by simp[itC]
 | x :: l,0=>rfl
 | x :: l,i+1=>by
  have a:(i+1) * 2=i * 2+1+1:=by omega
  rw[a,qle,List.take_succ_cons,List.take_succ_cons,uam l i,List.take_succ_cons,qle]
theorem ubk{w:World}{b:Option Addr}{n a:Nat}{l:List It}(h:ItR w b n a l)(i:Nat)(c:i<=n):ItR w b i a (l.take i):=by
 have:=h.take i c;rw[uam]at this;exact this
section
variable {S:Sp} {n i m:Nat} {ss:List Sta} {ld:Lds} {g:List Int} {s:Sta}
theorem OA.fin(h:OA S n ss ld g (ss.length * n+0)):vk S n (ss.map (·.K)) g:=fun C a=>⟨_,h.ha C a,by rw[List.length_map,Nat.mul_comm];exact Nat.le_refl _⟩
end
end Go.Proofs.YtbdogaaooeoccaaGreatDoor
