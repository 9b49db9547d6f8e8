/- Texts that the proof of AutoNone stands on beside those. -/
import Derived.Test.YtbdogaaooeoccaaGreatDoorPrf16
set_option maxHeartbeats 16000000
set_option maxRecDepth 100000
namespace Go.Proofs.YtbdogaaooeoccaaGreatDoor
open Go.RowKit
section
variable {S:Sp} {C:List It->List It} {n t i y:Nat} {ks:List (List It)} {g:List Int} {K:List It}
theorem kn(h:au S C n t=some (ks,g))(hd:n * ks.length<=t):∀u,au S C n (t+u)=some (ks,g)
 | 0=>h
 | u+1=>by
  have a:=kn h hd u;rw[<-Nat.add_assoc,au,a];simp only;rw[if_pos (by omega)]
theorem uac(h:au S C n t=none):∀u,au S C n (t+u)=none
 | 0=>h
 | u+1=>by
  have a:=uac h u;rw[<-Nat.add_assoc,au,a]
def vk (S:Sp) (n:Nat) (ks:List (List It)) (g:List Int):Prop:=∀C,CloF S C->∃t,au S C n t=some (ks,g)/\n * ks.length<=t
theorem uan{c:List (List It)}{d:List Int}(h:vk S n ks g)(k:vk S n c d):ks=c/\g=d:=by
 obtain⟨C,f⟩:=qua S;obtain⟨t,i,j⟩:=h C f;obtain⟨u,l,m⟩:=k C f;have a:=kn i j u;have b:=kn l m t;rw[Nat.add_comm]at b;rw[a]at b
 injection b with b
 injection b with b1 b2
 exact⟨b1,b2⟩
theorem uao(h:vk S n ks g)(k:Ovr9 S n):False:=by
 obtain⟨C,c⟩:=qua S;obtain⟨t,d,f⟩:=h C c;obtain⟨u,i⟩:=k C c;have a:=kn d f u;have b:=uac i t;rw[Nat.add_comm]at b;rw[a]at b
 cases b
end
def pat (l:List It) (x:It):Nat:=(l.takeWhile (fun y=>decide (ltI y x))).length
def yl (l:List It) (x:It):List It:=if l[pat l x]?=some x then l else l.take (pat l x)++x :: l.drop (pat l x)
theorem uak(l:List It)(x:It):l.take (pat l x)=l.takeWhile (fun y=>decide (ltI y x)):=by
 have h:l.takeWhile (fun y=>decide (ltI y x)) <+: l:=List.takeWhile_prefix _;exact(List.prefix_iff_eq_take.1 h).symm
theorem uaf{l:List It}{x y:It}(h:y∈l.take (pat l x)):ltI y x:=by
 rw[uak]at h
 have:∀(l:List It) (p:It->Bool) (y:It),y∈l.takeWhile p->p y=true:=fun l p=>by
  induction l with
  | nil=>intro y b;cases b
  | cons a l ih =>
   intro y b
   cases c:p a with
   | false=>rw[List.takeWhile_cons_of_neg (by rw[c];decide)]at b;cases b
   | true =>
    rw[List.takeWhile_cons_of_pos c]at b
    rcases List.mem_cons.1 b with rfl | e
    ·exact c
    ·exact ih y e
 have:=this l _ y h;rw[decide_eq_true_eq]at this;exact this
theorem uar{l:List It}{x y:It}(h:l[pat l x]?=some y):¬ltI y x:=by
 unfold pat at h
 induction l with
 | nil=>cases h
 | cons a l ih =>
  by_cases e:ltI a x
  ·rw[List.takeWhile_cons_of_pos (by rw[decide_eq_true_eq];exact e),List.length_cons,List.getElem?_cons_succ]at h
   exact ih h
  ·rw[List.takeWhile_cons_of_neg (by rw[decide_eq_true_eq];exact e)]at h
   simp at h;subst h;exact e
theorem ual{l:List It}(h:Sor l)(x:It):Sor (yl l x)/\∀y,y∈yl l x↔y=x\/y∈l:=by
 unfold yl
 by_cases e:l[pat l x]?=some x
 ·rw[if_pos e];refine⟨h,fun y=>⟨.inr,?_⟩⟩;rintro(rfl | c)
  ·exact List.mem_of_getElem? e
  ·exact c
 ·rw[if_neg e];have m:l=l.take (pat l x)++l.drop (pat l x):=(List.take_append_drop _ _).symm
  have hd:∀y∈l.drop (pat l x),ltI x y:=fun y c=>by
   rcases Nat.lt_or_ge (pat l x) l.length with hl | hl
   ·have f:l[pat l x]?=some l[pat l x]:=List.getElem?_eq_getElem hl
    have g:ltI x l[pat l x]:=Classical.byContradiction fun k=>e (by rw[f,qtd (uar f) k])
    rw[List.drop_eq_getElem_cons hl]at c
    rcases List.mem_cons.1 c with rfl | c
    ·exact g
    ·have j:Sor (l.drop (pat l x)):=List.Pairwise.sublist (List.drop_sublist _ _) h;rw[List.drop_eq_getElem_cons hl]at j;exact qpu g ((List.pairwise_cons.1 j).1 y c)
   ·rw[List.drop_eq_nil_of_le hl]at c;cases c
  constructor
  ·unfold Sor;rw[List.pairwise_append];refine⟨List.Pairwise.sublist (List.take_sublist _ _) h,List.pairwise_cons.2 ⟨hd,List.Pairwise.sublist (List.drop_sublist _ _) h⟩,fun a i b d=>?_⟩
   rcases List.mem_cons.1 d with rfl | d
   ·exact uaf i
   ·exact qpu (uaf i) (hd b d)
  ·intro y;rw[List.mem_append,List.mem_cons]
   have:y∈l↔y∈l.take (pat l x)\/y∈l.drop (pat l x):=by
    conv=>lhs;rw[m]
    rw[List.mem_append]
   rw[this]
   constructor
   ·rintro(a | a | a)
    ·exact .inr (.inl a)
    ·exact .inl a
    ·exact .inr (.inr a)
   ·rintro(a | a | a)
    ·exact .inr (.inl a)
    ·exact .inl a
    ·exact .inr (.inr a)
section
variable {S:Sp} {n i m:Nat} {ss:List Sta} {ld:Lds} {g:List Int} {s:Sta}
theorem OA.fin(h:OA S n ss ld g (ss.length * n+0)):vk S n (ss.map (·.K)) g:=fun C a=>⟨_,h.ha C a,by rw[List.length_map,Nat.mul_comm];exact Nat.le_refl _⟩
end
end Go.Proofs.YtbdogaaooeoccaaGreatDoor
