/-
  Of one to six parts, one behind the other, of which those that are not full may be empty: the whole begins with the tokens of all parts up to the first full one, it is empty just if no part is full, and Of tells the end beside them just then; any other number of parts: true. For every Os that has started, every world that the claim's own premises allow, every number and every list of flags.
-/
import Derived.Deep.Grids
import Derived.Test.YtngclmglmhiljaaGreatDoorCards
import Derived.Test.YtngclmglmhiljaaGreatDoorTie
import Derived.OpenShut
import Derived.ShutString
import Derived.ChangeOld
import Derived.Below
import Derived.SevenTiedAt
import Derived.Test.YtngclmglmhiljaaGreatDoorOthChains
set_option maxHeartbeats 16000000
set_option maxRecDepth 100000
namespace Go.Proofs.YtngclmglmhiljaaGreatDoor
open Go.RowKit
def cT (i:Nat):ByteArray:=⟨#[84,UInt8.ofNat (97+i)]⟩
def cX (i:Nat):ByteArray:=⟨#[120,UInt8.ofNat (97+i)]⟩
def cS:ByteArray:=⟨#[115]⟩
def ch1 (i:Nat) (b:Bool):List Ru:=⟨cX i,[cT i],e0⟩ :: (if b=true then [] else [⟨cX i,[],e0⟩])
def chR:Nat->List Bool->List Ru
 | _,[]=>[]
 | i,b :: l=>ch1 i b++chR (i+1) l
def chT (n:Nat):List Tk:=(List.range n).map fun i=>⟨cT i,0,0⟩
def chX (n:Nat):List ByteArray:=(List.range n).map cX
def chG (l:List Bool):Gm:=⟨chT l.length,e0,0,⟨cS,chX l.length,e0⟩ :: chR 0 l⟩
theorem uai(n:Nat):chT (n+1)=chT n++[⟨cT n,0,0⟩]:=by unfold chT;rw[List.range_succ,List.map_append];rfl
theorem uaj(n:Nat):chX (n+1)=chX n++[cX n]:=by unfold chX;rw[List.range_succ,List.map_append];rfl
theorem ka(n:Nat):(chT n).length=n:=by unfold chT;simp
theorem xp(n:Nat):(chX n).length=n:=by unfold chX;simp
theorem uae(b:Bool):∀(l:List Bool) (i:Nat),chR i (l++[b])=chR i l++ch1 (i+l.length) b
 | [],i=>by simp[chR]
 | c :: l,i=>by
  rw[List.cons_append]
  show ch1 i c++chR (i+1) (l++[b])=ch1 i c++chR (i+1) l++ch1 (i+(l.length+1)) b
  rw[uae b l (i+1),List.append_assoc,show i+1+l.length=i+(l.length+1) by omega]
theorem yr:∀(l:List Bool) (i:Nat),(chR i l).length<=2 * l.length
 | [],i=>Nat.le_refl _
 | b :: l,i=>by
  have:=yr l (i+1)
  show(ch1 i b++chR (i+1) l).length<=2 * (l.length+1)
  rw[List.length_append]
  have a:(ch1 i b).length<=2:=by unfold ch1;cases b <;> simp
  omega
theorem uac{r:Ru}:∀{l:List Bool} {i:Nat},r∈chR i l↔∃j b,l[j]?=some b/\(r=⟨cX (i+j),[cT (i+j)],e0⟩\/(b=false/\r=⟨cX (i+j),[],e0⟩))
 | [],i=>by simp[chR]
 | c :: l,i=>by
  show r∈ch1 i c++chR (i+1) l↔_
  rw[List.mem_append,uac (l:=l)]
  constructor
  ·rintro(h | ⟨j,b,d,a⟩)
   ·refine⟨0,c,rfl,?_⟩
    unfold ch1 at h
    rcases List.mem_cons.1 h with h | h
    ·exact .inl h
    ·cases c
     ·right;exact⟨rfl,by simpa using h⟩
     ·simp at h
   ·exact⟨j+1,b,d,by rw[show i+(j+1)=i+1+j by omega];exact a⟩
  ·rintro⟨j,b,d,a⟩
   cases j with
   | zero =>
    left
    cases d
    unfold ch1
    rcases a with a | ⟨rfl,a⟩
    ·rw[a];simp
    ·rw[a];simp
   | succ j=>exact .inr ⟨j,b,d,by rw[show i+1+j=i+(j+1) by omega];exact a⟩
theorem ube:((List.range 7).all fun i=>nameOk (by8 (cT i)) && nameOk (by8 (cX i)) && (cT i).size == 2 && (cX i).size == 2)=true:=by kernel_rfl
theorem uat:((List.range 7).all fun i=>(List.range i).all fun j=>!((cT j).data.toList == (cT i).data.toList))=true:=by kernel_rfl
theorem uba:((List.range 7).all fun n=>!((cS :: chX n).map (·.data.toList)).contains (cX n).data.toList)=true:=by kernel_rfl
theorem ua1:((List.range 7).all fun n=>(List.range 7).all fun i=>!((cS :: chX n).map (·.data.toList)).contains (cT i).data.toList)=true:=by kernel_rfl
theorem ubf:((List.range 7).all fun n=>(List.range n).all fun j=>ix (cS :: chX n) (cX j) == j+1 && ix ((chT n).map (·.n)) (cT j) == j)=true:=by kernel_rfl
theorem vk{n:Nat}{f:Nat->Bool}(h:(List.range n).all f=true){i:Nat}(a:i<n):f i=true:=List.all_eq_true.1 h i (List.mem_range.2 a)
theorem uau{l:List ByteArray}{x:ByteArray}(h:(!(l.map (·.data.toList)).contains x.data.toList)=true):x ∉ l:=by
 intro a
 have:x.data.toList∈l.map (·.data.toList):=List.mem_map.2 ⟨x,a,rfl⟩
 simp only[Bool.not_eq_true',List.contains_eq_mem,decide_eq_false_iff_not]at h
 exact h this
theorem xo{i:Nat}(h:i<7):zp (cT i)/\zp (cX i)/\(cT i).size=2/\(cX i).size=2:=by
 have:=vk ube h
 simp only[Bool.and_eq_true,beq_iff_eq]at this
 exact⟨this.1.1.1,this.1.1.2,this.1.2,this.2⟩
theorem ubg:zp cS:=by unfold zp;kernel_rfl
theorem ubh{i j:Nat}(h:i<7)(a:j<i):cT j≠cT i:=by
 have:=vk (vk uat h) a
 exact qaw (by simpa using this)
theorem ua7{n:Nat}(h:n<7):cX n ∉ cS :: chX n:=uau (vk uba h)
theorem uav{n i:Nat}(h:n<7)(a:i<7):cT i ∉ cS :: chX n:=uau (vk (vk ua1 h) a)
theorem uaw{n j:Nat}(h:n<7)(a:j<n):ix (cS :: chX n) (cX j)=j+1/\ix ((chT n).map (·.n)) (cT j)=j:=by
 have:=vk (vk ubf h) a
 simpa only[Bool.and_eq_true,beq_iff_eq] using this
theorem uaa{n:Nat}{x:ByteArray}:x∈chX n↔∃j,j<n/\cX j=x:=by unfold chX;simp
theorem uad{n:Nat}{t:Tk}:t∈chT n↔∃j,j<n/\t=⟨cT j,0,0⟩:=by
 unfold chT
 rw[List.mem_map]
 constructor
 ·rintro⟨j,a,rfl⟩;exact⟨j,List.mem_range.1 a,rfl⟩
 ·rintro⟨j,a,rfl⟩;exact⟨j,List.mem_range.2 a,rfl⟩
theorem ubb{l:List ByteArray}{r:Ru}(h:r.l∈l):lfS l r=l:=by unfold lfS;rw[if_pos (jz.2 h)]
theorem ua8{l:List ByteArray}{r:Ru}(h:r.l ∉ l):lfS l r=l++[r.l]:=by unfold lfS;rw[if_neg (fun e=>h (jz.1 e))]
theorem uao:∀(l:List Bool) (i:Nat),i+l.length<=6->(chR i l).foldl lfS (cS :: chX i)=cS :: chX (i+l.length)
 | [],i,_=>rfl
 | b :: l,i,h=>by
  rw[List.length_cons]at h
  show(ch1 i b++chR (i+1) l).foldl lfS (cS :: chX i)=cS :: chX (i+(l.length+1))
  rw[List.foldl_append]
  have a:(ch1 i b).foldl lfS (cS :: chX i)=cS :: chX (i+1):=by
   unfold ch1
   rw[List.foldl_cons,ua8 (ua7 (by omega)),uaj,List.cons_append]
   cases b
   ·rw[if_neg (by decide),List.foldl_cons,ubb (by simp),List.foldl_nil]
   ·rw[if_pos rfl,List.foldl_nil]
  rw[a,uao l (i+1) (by omega),show i+1+l.length=i+(l.length+1) by omega]
theorem yp{l:List Bool}(h:l.length<=6):lfs (chG l).rs=cS :: chX l.length:=by
 have:=uao l 0 (by omega)
 rw[Nat.zero_add]at this
 unfold lfs
 show(_ :: chR 0 l).foldl lfS []=_
 rw[List.foldl_cons]
 exact this
theorem ua9(n:Nat):levF (chT n)=some jl:=by
 induction n with
 | zero=>rfl
 | succ n ih =>
  rw[uai,qcd,ih]
  have a:LevP ⟨cT n,0,0⟩:=.inl ⟨rfl,rfl⟩
  simp[levS,a,at9,jl]
theorem ua2:qaf jl:=by
 intro k c b a
 match k,b,a with
 | 0,_,_=>omega
 | 1,_,a=>exact absurd rfl a
 | 2,_,a=>exact absurd rfl a
 | 3,_,a=>exact absurd rfl a
 | 4,_,a=>exact absurd rfl a
 | 5,_,a=>exact absurd rfl a
 | 6,_,a=>exact absurd rfl a
 | 7,_,a=>exact absurd rfl a
 | 8,_,a=>exact absurd rfl a
theorem yl{l:List Bool}{r:Ru}(h:r∈(chG l).rs):r=⟨cS,chX l.length,e0⟩\/∃j,j<l.length/\(r=⟨cX j,[cT j],e0⟩\/(l[j]?=some false/\r=⟨cX j,[],e0⟩)):=by
 rcases List.mem_cons.1 h with h | h
 ·exact .inl h
 ·obtain⟨j,b,a,c⟩:=uac.1 h
  rw[Nat.zero_add]at c
  refine .inr ⟨j,(List.getElem?_eq_some_iff.1 a).1,c.imp id fun⟨d,f⟩=>⟨by rw[a,d],f⟩⟩
theorem uax{l:List Bool}{j:Nat}{b:Bool}(h:l[j]?=some b):(⟨cX j,[cT j],e0⟩:Ru)∈(chG l).rs/\(b=false->(⟨cX j,[],e0⟩:Ru)∈(chG l).rs):=by
 refine⟨List.mem_cons_of_mem _ (uac.2 ⟨j,b,h,.inl (by rw[Nat.zero_add])⟩),fun a=>List.mem_cons_of_mem _ (uac.2 ⟨j,b,h,.inr ⟨a,by rw[Nat.zero_add]⟩⟩)⟩
theorem ua3{l:List Bool}(h:l.length<=6):Small (chG l):=by
 have b:e0.size<=100:=by decide
 have f:cS.size<=100:=by decide
 have d:=yr l 0
 refine⟨by show(chT _).length<=100;rw[ka];omega,by show(_ :: chR 0 l).length<=200;rw[List.length_cons];omega,b,fun t g=>?_,fun r d=>?_⟩
 ·obtain⟨j,c,rfl⟩:=uad.1 g
  have:=(xo (i:=j) (by omega)).2.2.1
  show(cT j).size<=100
  omega
 ·rcases yl d with rfl | ⟨j,c,rfl | ⟨-,rfl⟩⟩
  ·refine⟨f,b,by rw[xp];omega,fun x a=>?_⟩
   obtain⟨j,c,rfl⟩:=uaa.1 a
   have:=(xo (i:=j) (by omega)).2.2.2
   omega
  ·have:=(xo (i:=j) (by omega)).2.2
   refine⟨by show(cX j).size<=100;omega,b,by show 1<=100;omega,fun x a=>?_⟩
   rw[List.mem_singleton]at a
   subst a
   omega
  ·have:=(xo (i:=j) (by omega)).2.2
   exact⟨by show(cX j).size<=100;omega,b,by show 0<=100;omega,fun x a=>(by cases a)⟩
theorem uak{l:List Bool}(h:l.length<=6):MayP (chG l):=by
 have g:=yr l 0
 refine⟨by show(chT _).length<=40;rw[ka];omega,by show(_ :: chR 0 l).length<=100;rw[List.length_cons];omega,by show(0:Int)<=0;decide,by show(0:Int)<=9999;decide,.inl rfl,⟨fun i t c=>?_,jl,ua9 _,ua2⟩,fun r g=>?_⟩
 ·have d:∀(i:Nat) (t:Tk),(chT l.length)[i]?=some t->i<l.length/\t=⟨cT i,0,0⟩:=fun i t c=>by
   unfold chT at c
   rw[List.getElem?_map]at c
   obtain⟨j,b,rfl⟩:=Option.map_eq_some_iff.1 c
   obtain⟨f,rfl⟩:=List.getElem?_eq_some_iff.1 b
   rw[List.length_range]at f
   rw[List.getElem_range]
   exact⟨f,rfl⟩
  obtain⟨f,rfl⟩:=d i t c
  refine⟨(xo (by omega)).1,fun j u b k=>?_⟩
  obtain⟨-,rfl⟩:=d j u k
  exact ubh (by omega) b
 ·rcases yl g with rfl | ⟨j,b,rfl | ⟨-,rfl⟩⟩
  ·refine⟨ubg,by rw[xp];omega,.inl rfl,fun x a=>?_⟩
   obtain⟨j,b,rfl⟩:=uaa.1 a
   exact(xo (by omega)).2.1
  ·refine⟨(xo (by omega)).2.1,by show 1<=20;omega,.inl rfl,fun x a=>?_⟩
   rw[List.mem_singleton]at a
   subst a
   exact(xo (by omega)).1
  ·exact⟨(xo (by omega)).2.1,by show 0<=20;omega,.inl rfl,fun x a=>(by cases a)⟩
theorem ua4{l:List Bool}(h:l.length<=6):¬kz (chG l):=by
 have c:=yr l 0
 rintro(a | a | a | ⟨r,b,a⟩)
 ·have a:12<(chT l.length).length:=a
  rw[ka]at a
  omega
 ·have a:30<(chR 0 l).length+1:=a
  omega
 ·rw[yp h,List.length_cons,xp]at a
  omega
 ·rcases yl b with rfl | ⟨j,hj,rfl | ⟨-,rfl⟩⟩
  ·rw[xp]at a;omega
  ·exact absurd a (show ¬6<1 by omega)
  ·exact absurd a (show ¬6<0 by omega)
theorem uaq{l:List Bool}(h:l.length<=6):NmP (chG l):=by
 have d:∀j,j<l.length->cX j∈cS :: chX l.length:=fun j a=>List.mem_cons_of_mem _ (uaa.2 ⟨j,a,rfl⟩)
 refine⟨by simp[chG],fun t f=>?_,fun r c=>?_,fun r c x b=>?_,?_⟩
 ·obtain⟨j,a,rfl⟩:=uad.1 f
  rw[yp h]
  exact uav (by omega) (by omega)
 ·rcases yl c with rfl | ⟨j,a,rfl | ⟨-,rfl⟩⟩ <;> exact .inl rfl
 ·rw[yp h]
  rcases yl c with rfl | ⟨j,a,rfl | ⟨-,rfl⟩⟩
  ·obtain⟨j,a,rfl⟩:=uaa.1 b
   exact .inr (d j a)
  ·rw[List.mem_singleton]at b
   subst b
   left
   unfold tkG
   exact List.mem_map.2 ⟨⟨cT j,0,0⟩,uad.2 ⟨j,a,rfl⟩,rfl⟩
  ·cases b
 ·rw[yp h]
  show cS∈cS :: chX l.length
  simp
structure ChS (S:Sp) (l:List Bool):Prop where
 tk:S.tk=l.length
 nt:S.nt=l.length+1
 st:S.st=l.length+1
 shape:∀(i:Nat) (r:SR) (x:Nat),0<i->S.rs[i]?=some r->r.l=(x:Int)->(x=l.length+1/\r.r=(List.range l.length).map (fun j=>l.length+2+j))\/∃j,j<l.length/\x=l.length+2+j/\(r.r=[j]\/(l[j]?=some false/\r.r=[]))
 top:∃i r,0<i/\S.rs[i]?=some r/\r.l=((l.length+1:Nat):Int)/\r.r=(List.range l.length).map (fun j=>l.length+2+j)
 one:∀j,j<l.length->∃i r,0<i/\S.rs[i]?=some r/\r.l=((l.length+2+j:Nat):Int)/\r.r=[j]
 non:∀j,l[j]?=some false->∃i r,0<i/\S.rs[i]?=some r/\r.l=((l.length+2+j:Nat):Int)/\r.r=[]
theorem uar{l:List ByteArray}{x:ByteArray}{k:Nat}(h:q9 l x=some k):ix l x=k:=by unfold ix;rw[h];rfl
theorem ubc{l:List Bool}(h:l.length<=6):ix (nmG (chG l)) cS=l.length+1/\∀j,j<l.length->ix (nmG (chG l)) (cX j)=l.length+2+j/\ix (nmG (chG l)) (cT j)=j:=by
 have b:=yp h
 have c:(chG l).ts.length=l.length:=ka _
 refine⟨?_,fun j a=>⟨?_,?_⟩⟩
 ·have:=uar (qeh (uak h) (uaq h) (x:=cS) (by rw[b];simp))
  rw[this,b,c]
  have:ix (cS :: chX l.length) cS=0:=by unfold ix;rw[qdh,if_pos rfl];rfl
  rw[this]
 ·have:=uar (qeh (uak h) (uaq h) (x:=cX j) (by rw[b];exact List.mem_cons_of_mem _ (uaa.2 ⟨j,a,rfl⟩)))
  rw[this,b,c,(uaw (by omega) a).1]
  omega
 ·have d:cT j∈tkG (chG l):=by
   unfold tkG
   exact List.mem_map.2 ⟨⟨cT j,0,0⟩,uad.2 ⟨j,a,rfl⟩,rfl⟩
  rw[uar (qp9 d).1]
  exact(uaw (by omega) a).2
theorem uag{l:List Bool}(h:l.length<=6):ChS (spG (chG l)) l:=by
 obtain⟨u,f⟩:=ubc h
 have s:=yp h
 have t:(chG l).ts.length=l.length:=ka _
 have p:stG (chG l)=l.length+1:=by
  unfold stG
  rw[s,t]
  have:ix (cS :: chX l.length) (kc (chG l))=0:=by
   show ix (cS :: chX l.length) cS=0
   unfold ix;rw[qdh,if_pos rfl];rfl
  rw[this]
 have c:(chX l.length).map (ix (nmG (chG l)))=(List.range l.length).map (fun j=>l.length+2+j):=by
  unfold chX
  rw[List.map_map]
  exact List.map_congr_left fun j a=>(f j (List.mem_range.1 a)).1
 have m:(spG (chG l)).rs=⟨-1,[stG (chG l)],0,0⟩ :: (chG l).rs.map (ruG (chG l)):=rfl
 have b:∀r∈(chG l).rs,∃i,0<i/\(spG (chG l)).rs[i]?=some (ruG (chG l) r):=fun r o=>by
  obtain⟨i,d⟩:=List.getElem?_of_mem o
  exact⟨i+1,by omega,by rw[m,List.getElem?_cons_succ,List.getElem?_map,d];rfl⟩
 refine⟨t,by show(lfs (chG l).rs).length=_;rw[s,List.length_cons,xp],p,fun i r x g o n=>?_,?_,fun j a=>?_,fun j a=>?_⟩
 ·obtain⟨k,rfl⟩:∃k,i=k+1:=⟨i - 1,by omega⟩
  rw[m,List.getElem?_cons_succ,List.getElem?_map]at o
  obtain⟨q,v,rfl⟩:=Option.map_eq_some_iff.1 o
  have n:((ix (nmG (chG l)) q.l:Nat):Int)=(x:Int):=n
  rcases yl (List.mem_of_getElem? v) with rfl | ⟨j,a,rfl | ⟨hf,rfl⟩⟩
  ·rw[u]at n
   exact .inl ⟨by omega,c⟩
  ·rw[(f j a).1]at n
   refine .inr ⟨j,a,by omega,.inl ?_⟩
   show[ix (nmG (chG l)) (cT j)]=[j]
   rw[(f j a).2]
  ·rw[(f j a).1]at n
   exact .inr ⟨j,a,by omega,.inr ⟨hf,rfl⟩⟩
 ·obtain⟨i,g,d⟩:=b ⟨cS,chX l.length,e0⟩ (by simp[chG])
  refine⟨i,_,g,d,?_,c⟩
  show((ix (nmG (chG l)) cS:Nat):Int)=_
  rw[u]
 ·obtain⟨i,g,d⟩:=b _ (uax (List.getElem?_eq_getElem a)).1
  refine⟨i,_,g,d,?_,?_⟩
  ·show((ix (nmG (chG l)) (cX j):Nat):Int)=_
   rw[(f j a).1]
  ·show[ix (nmG (chG l)) (cT j)]=[j]
   rw[(f j a).2]
 ·obtain⟨i,g,d⟩:=b _ ((uax a).2 rfl)
  refine⟨i,_,g,d,?_,rfl⟩
  show((ix (nmG (chG l)) (cX j):Nat):Int)=_
  rw[(f j (List.getElem?_eq_some_iff.1 a).1).1]
theorem ua5{n:Nat}{f:Nat->Nat}{u v:List Nat}{y:Nat}(h:(List.range n).map f=u++y :: v):u.length<n/\y=f u.length/\∀k,k<u.length->f k∈u:=by
 have c:=congrArg List.length h
 rw[List.length_map,List.length_range,List.length_append,List.length_cons]at c
 have a:∀k,k<n->(u++y :: v)[k]?=some (f k):=fun k b=>by
  rw[<-h,List.getElem?_map,List.getElem?_range b]
  rfl
 refine⟨by omega,?_,fun k b=>?_⟩
 ·have:=a u.length (by omega)
  rw[List.getElem?_append_right (Nat.le_refl _),Nat.sub_self]at this
  simpa using this
 ·have:=a k (by omega)
  rw[List.getElem?_append_left b]at this
  exact List.mem_of_getElem? this
theorem ChS.nul{S:Sp}{l:List Bool}(c:ChS S l){x:Nat}(h:Nul S x):(x=l.length+1/\∀j,j<l.length->l[j]?=some false)\/∃j,x=l.length+2+j/\l[j]?=some false:=by
 refine h (fun x=>(x=l.length+1/\∀j,j<l.length->l[j]?=some false)\/∃j,x=l.length+2+j/\l[j]?=some false) (fun i r x d g f b=>?_)
 rcases c.shape i r x d g f with ⟨e,er⟩ | ⟨j,a,e,er | ⟨hf,er⟩⟩
 ·refine .inl ⟨e,fun j a=>?_⟩
  rcases b (l.length+2+j) (by rw[er];exact List.mem_map.2 ⟨j,List.mem_range.2 a,rfl⟩) with ⟨h1,-⟩ | ⟨k,h1,h2⟩
  ·omega
  ·have:j=k:=by omega
   rw[this];exact h2
 ·rcases b j (by rw[er];simp) with ⟨h1,-⟩ | ⟨k,h1,-⟩ <;> omega
 ·exact .inr ⟨j,e,hf⟩
theorem ChS.nulX{S:Sp}{l:List Bool}(c:ChS S l){j:Nat}(h:l[j]?=some false):Nul S (l.length+2+j):=by
 obtain⟨i,r,d,g,f,b⟩:=c.non j h
 exact Nul.rule i r _ d g f (fun y a=>by rw[b]at a;cases a)
theorem ChS.fst{S:Sp}{l:List Bool}(c:ChS S l){x t:Nat}(h:FstP S x t):(x<l.length/\t=x)\/(∃j,j<l.length/\x=l.length+2+j/\t=j)\/(x=l.length+1/\t<l.length/\∀k,k<t->l[k]?=some false):=by
 refine h (fun x t=>(x<l.length/\t=x)\/(∃j,j<l.length/\x=l.length+2+j/\t=j)\/(x=l.length+1/\t<l.length/\∀k,k<t->l[k]?=some false)) (fun x d=>.inl ⟨by rw[c.tk]at d;exact d,rfl⟩) (fun i r x y a u v g A z b B f=>?_)
 rcases c.shape i r x g A z with ⟨e,er⟩ | ⟨j,hj,e,er | ⟨hf,er⟩⟩
 ·rw[er]at b
  obtain⟨n,C,o⟩:=ua5 b
  have p:a=u.length:=by
   rcases f with ⟨h4,-⟩ | ⟨j,-,h5,h6⟩ | ⟨h4,-⟩ <;> omega
  subst p
  refine .inr (.inr ⟨e,n,fun k s=>?_⟩)
  rcases c.nul (B _ (o k s)) with ⟨h4,-⟩ | ⟨m,h4,h5⟩
  ·omega
  ·have:k=m:=by omega
   rw[this];exact h5
 ·rw[er]at b
  match u,b with
  | [],b =>
   have q:j=y:=(List.cons.inj b).1
   refine .inr (.inl ⟨j,hj,e,?_⟩)
   rcases f with ⟨-,h4⟩ | ⟨m,-,h5,-⟩ | ⟨h4,-⟩ <;> omega
  | _ :: u,b=>cases u <;> cases b
 ·rw[er]at b
  cases u <;> cases b
theorem ChS.fstX{S:Sp}{l:List Bool}(c:ChS S l){j:Nat}(h:j<l.length):FstP S (l.length+2+j) j:=by
 obtain⟨i,r,b,f,d,a⟩:=c.one j h
 exact FstP.rule i r _ j j [] [] b f d a (fun z g=>by cases g) (FstP.tok j (by rw[c.tk];exact h))
theorem uay{n t:Nat}(f:Nat->Nat)(h:t<n):∃v,(List.range n).map f=(List.range t).map f++f t :: v:=by
 refine⟨((List.range n).map f).drop (t+1),?_⟩
 have a:((List.range n).map f).take t=(List.range t).map f:=by rw[<-List.map_take,List.take_range,Nat.min_eq_left (by omega)]
 have b:((List.range n).map f)[t]?=some (f t):=by rw[List.getElem?_map,List.getElem?_range h];rfl
 rw[<-a]
 conv=>lhs;rw[<-List.take_append_drop t ((List.range n).map f)]
 rw[List.drop_eq_getElem?_toList_append,b]
 rfl
theorem ChS.fstS{S:Sp}{l:List Bool}(c:ChS S l){t:Nat}(h:t<l.length)(f:∀k,k<t->l[k]?=some false):FstP S (l.length+1) t:=by
 obtain⟨i,r,b,m,g,a⟩:=c.top
 obtain⟨v,n⟩:=uay (fun j=>l.length+2+j) h
 rw[n]at a
 refine FstP.rule i r _ _ t _ v b m g a (fun z o=>?_) (c.fstX h)
 obtain⟨k,d,rfl⟩:=List.mem_map.1 o
 exact c.nulX (f k (List.mem_range.1 d))
theorem ChS.nulS{S:Sp}{l:List Bool}(c:ChS S l)(h:∀j,j<l.length->l[j]?=some false):Nul S (l.length+1):=by
 obtain⟨i,r,d,m,g,b⟩:=c.top
 refine Nul.rule i r _ d m g (fun y a=>?_)
 rw[b]at a
 obtain⟨k,f,rfl⟩:=List.mem_map.1 a
 exact c.nulX (h k (List.mem_range.1 f))
theorem ChS.use{S:Sp}{l:List Bool}(c:ChS S l):¬yd S:=by
 have p:∀j,j<l.length->Der S (l.length+2+j):=fun j n=>by
  obtain⟨i,r,f,h,g,d⟩:=c.one j n
  exact Der.rule i r _ f h g (fun y b=>by
   rw[d,List.mem_singleton]at b
   subst b
   exact Der.tok _ (by rw[c.tk];exact n))
 obtain⟨i,r,f,h,g,d⟩:=c.top
 have o:Rch S (l.length+1):=by
  have:=Rch.start (S:=S)
  rwa [c.st]at this
 rintro⟨x,q,m,a⟩
 rw[c.tk]at q m
 rw[c.nt]at m
 rcases Nat.lt_or_ge x (l.length+2) with h4 | h4
 ·obtain rfl:x=l.length+1:=by omega
  rcases a with a | a
  ·refine a (Der.rule i r _ f h g (fun y b=>?_))
   rw[d]at b
   obtain⟨k,s,rfl⟩:=List.mem_map.1 b
   exact p k (List.mem_range.1 s)
  ·exact a o
 ·obtain⟨j,rfl⟩:∃j,x=l.length+2+j:=⟨x - (l.length+2),by omega⟩
  rcases a with a | a
  ·exact a (p j (by omega))
  ·exact a (Rch.rule i r (l.length+1) _ f h g o (by rw[d];exact List.mem_map.2 ⟨j,List.mem_range.2 (by omega),rfl⟩))
theorem ua6{l:List Bool}(h:l.length<=6):OfR (chG l) 0:=.inr (.inr (.inr (.inr ⟨rfl,uak h,ua4 h,uaq h,(uag h).use⟩)))
def Fu (l:List Bool) (m:Nat):Prop:=m<=l.length/\(∀k,k<m->l[k]?=some false)/\(m<l.length->l[m]?=some true)
theorem uab(M:Nat):∀n,M<=n->(List.range n).filter (fun t=>decide (t<M))=List.range M
 | 0,h=>by
  obtain rfl:M=0:=by omega
  rfl
 | n+1,h=>by
  rw[List.range_succ,List.filter_append]
  rcases Nat.lt_or_ge n M with h1 | h1
  ·obtain rfl:M=n+1:=by omega
   have e:(List.range n).filter (fun t=>decide (t<n+1))=List.range n:=List.filter_eq_self.2 fun t a=>by
    have:=List.mem_range.1 a
    simp;omega
   rw[e,List.range_succ]
   simp
  ·rw[uab M n h1]
   have e:decide (n<M)=false:=by simp;omega
   simp[e]
theorem uah{m M:Nat}{Q:Nat->Prop}(a:M<=m)(h:∀t,t<m->(t<M↔Q t)):IsL m Q (List.range M):=⟨fun t=>decide (t<M),fun t b=>by rw[decide_eq_true_eq];exact h t b,(uab M m a).symm⟩
theorem uaz{l:List Bool}{m:Nat}{S:Sp}(c:ChS S l)(a:Fu l m):Nul S (l.length+1)↔m=l.length:=by
 constructor
 ·intro h
  rcases c.nul h with ⟨-,h1⟩ | ⟨j,h1,h2⟩
  ·rcases Nat.lt_or_ge m l.length with h2 | h2
   ·have b:=a.2.2 h2
    rw[h1 m h2]at b
    cases b
   ·have:=a.1
    omega
  ·have:=(List.getElem?_eq_some_iff.1 h2).1
   omega
 ·rintro rfl
  exact c.nulS a.2.1
theorem ual{l:List Bool}{m:Nat}{S:Sp}(c:ChS S l)(b:Fu l m):IsL (l.length+1) (FstP S (l.length+1)) (List.range (min (m+1) l.length)):=by
 refine uah (by omega) (fun t f=>?_)
 constructor
 ·intro h
  exact c.fstS (by omega) (fun k d=>b.2.1 k (by omega))
 ·intro h
  rcases c.fst h with ⟨h1,-⟩ | ⟨j,-,h1,-⟩ | ⟨-,h1,h2⟩
  ·omega
  ·omega
  ·rcases Nat.lt_or_ge m t with h3 | h3
   ·have a:=b.2.2 (by omega)
    rw[h2 m h3]at a
    cases a
   ·omega
theorem ua0{l:List Bool}{m:Nat}{S:Sp}(c:ChS S l)(b:Fu l m):IsL (l.length+1) (fun t=>FstL S [l.length+1] t\/((∀z∈[l.length+1],Nul S z)/\(t:Int)=(l.length:Int))) (List.range (min (m+1) l.length+if m=l.length then 1 else 0)):=by
 have i:=ual c b
 have k:=uaz c b
 have f:(∀z∈[l.length+1],Nul S z)↔m=l.length:=by
  rw[<-k]
  constructor
  ·intro h;exact h _ (by simp)
  ·intro h z d
   rw[List.mem_singleton]at d
   subst d
   exact h
 have j:=b.1
 refine uah (by split <;> omega) (fun t n=>?_)
 have g:t<min (m+1) l.length↔FstP S (l.length+1) t:=by
  rw[<-List.mem_range,i.mem]
  exact⟨fun h=>h.2,fun h=>⟨n,h⟩⟩
 rw[qba,f,<-g]
 constructor
 ·intro h
  split at h
  ·rcases Nat.lt_or_ge t (min (m+1) l.length) with a | a
   ·exact .inl (.inl a)
   ·exact .inr ⟨by assumption,by omega⟩
  ·exact .inl (.inl (by omega))
 ·rintro((h | ⟨-,h⟩) | ⟨h,a⟩)
  ·split <;> omega
  ·exact absurd h qc9
  ·rw[if_pos h]
   omega
def ChA (W:World) (fb n m:Nat):Prop:=∀V,Below W.heap.size W V->(Calls Tryz.prog 20 #[.pointer (some ⟨fb,0,none⟩),.int .i64 ((n:Int)+1)] V fun e w'=>Lst V w' (List.range (min (m+1) n)) e)/\(Calls Tryz.prog 23 #[.pointer (some ⟨fb,0,none⟩),.int .i64 ((n:Int)+1)] V fun e w'=>e=.returned (.bool ((m:Int) == (n:Int)))/\w'=V)/\(∀sa,Row V 1 sa 1 1 (natC [n+1])->Calls Tryz.prog 19 #[.pointer (some ⟨fb,0,none⟩),.slice sa 1 1,.int .i64 (n:Int)] V fun e w'=>Lst V w' (List.range (min (m+1) n+if m=n then 1 else 0)) e)
def chC (n a b c d:Nat) (h:SHd):Array Value:=#[.int .i64 (n:Int),.int .i64 ((n:Int)+1),.int .i64 ((n:Int)+1),.int .i64 0,.slice h.na a h.nc,.slice h.la b h.lc,.slice h.aa c h.ac,.slice h.ra d h.rc]
theorem ubi{l:List Bool}{n:Nat}(b:l.length=n)(i:n<=6)(h:SHd):sC h (spG (chG l))=chC n (nmG (chG l)).length ((chG l).ts.map (·.l)).length ((chG l).ts.map (·.a)).length (spG (chG l)).rs.length h:=by
 have c:=uag (l:=l) (by omega)
 have d:((spG (chG l)).tk:Int)=(n:Int):=by rw[c.tk,b]
 have f:((spG (chG l)).nt:Int)=(n:Int)+1:=by rw[c.nt,b];omega
 have g:((spG (chG l)).st:Int)=(n:Int)+1:=by rw[c.st,b];omega
 unfold sC chC
 rw[d,f,g]
 rfl
theorem uam(w:World)(h:Hd)(l:List Bool)(n:Nat)(q:l.length=n)(p:n<=6)(m:IsG w h (chG l)):Calls Tryz.prog 10 #[gv h (chG l)] w fun e g=>∃(f:SHd) (a b c d:Nat),e=.returned (.tuple #[.agg (chC n a b c d f),.int .i64 0])/\IsSp g f (spG (chG l))/\Below w.heap.size w g/\sv f (spG (chG l))=.agg (chC n a b c d f):=by
 refine(qmg (chG l) h w 0 m (ua6 (by omega))).mono ?_
 rintro e g ⟨f,rfl,j,o⟩
 have k:spK (chG l) 0=spG (chG l):=if_pos rfl
 rw[k]at j ⊢
 have i:=ubi q p f
 exact⟨f,_,_,_,_,by rw[i],j,o,by unfold sv;rw[i]⟩
theorem uan(w:World)(h:SHd)(l:List Bool)(n m:Nat)(B:l.length=n)(y:1<=n/\n<=6)(q:Fu l m)(D:IsSp w h (spG (chG l))):Calls Tryz.prog 17 #[sv h (spG (chG l))] w fun e j=>∃b,e=.returned (.pointer (some ⟨b,0,none⟩))/\ChA j b n m/\Below w.heap.size w j:=by
 obtain⟨A,d⟩:=y
 subst B
 have g:=qqy (ua6 d)
 have c:=uag d
 have v:(chG l).ts.length+1+(lfs (chG l).rs).length=l.length+1+(l.length+1):=by
  rw[yp d,List.length_cons,xp]
  show(chT l.length).length+1+_=_
  rw[ka]
 rw[v]at g
 have i:=c.tk
 have a:l.length+1<l.length+1+(l.length+1):=by omega
 have s:((l.length+1:Nat):Int)=(l.length:Int)+1:=by omega
 refine(qgs w h (spG (chG l)) _ g D).mono ?_
 rintro e j ⟨b,p,E,r,rfl,o,k⟩
 refine⟨b,rfl,fun V x=>?_,k⟩
 have f:=o.below x
 refine⟨?_,?_,fun F C=>?_⟩
 ·have:=qgt V _ b _ p E _ r f (l.length+1) a (by rw[i];omega)
  rw[s]at this
  refine this.mono fun e j h=>?_
  rw[i]at h
  exact h.is (ual c q)
 ·have:=qc0 V b p.eb _ _ (l.length+1) (isF E (l.length+1)) f.fm.c1 a (f.fm.ce a)
  rw[s]at this
  have k:isF E (l.length+1)=((m:Int) == (l.length:Int)):=by
   have u:=(f.emp (l.length+1)).trans (uaz c q)
   rw[Bool.eq_iff_iff,beq_iff_eq,u]
   omega
  rw[k]at this
  exact this
 ·refine(qck V _ b _ p E _ r f [l.length+1] F 1 1 rfl (by omega) C (fun z t=>by
   rw[List.mem_singleton]at t
   subst t
   rw[i]
   exact⟨a,by omega⟩) (l.length:Int) (.inr ⟨by omega,by rw[i];omega⟩)).mono fun e j h=>?_
  rw[i]at h
  exact h.is (ua0 c q)
structure CB (w W:World) (gb:Nat) (ta:Option Addr) (tc g c:Nat) (xa:Option Addr) (xc:Nat) (ts:List Tk) (xs:List ByteArray) (rs:List Ru) (qr:List (Ru × Option Addr × Nat)):Prop where
 gb:GB w W gb ⟨ta,tc,some ⟨g,0,none⟩,c⟩ ⟨ts,e0,0,⟨cS,xs,e0⟩ :: rs⟩ ((⟨cS,xs,e0⟩,xa,xc) :: qr)
 sep:∀q∈qr,∀b,blk xa=some b->blk q.2.1≠some b
theorem CB.step{w W:World}{d:Nat}{f:Option Addr}{h g c:Nat}{i:Option Addr}{j:Nat}{ts:List Tk}{xs:List ByteArray}{rs:List Ru}{a:List (Ru × Option Addr × Nat)}(s:CB w W d f h g c i j ts xs rs a){b:World}(k:Below W.heap.size W b):CB w b d f h g c i j ts xs rs a:=⟨s.gb.step k,s.sep⟩
theorem CB.cells{w W:World}{a:Nat}{i:Option Addr}{k g c:Nat}{d:Option Addr}{f:Nat}{ts:List Tk}{xs:List ByteArray}{rs:List Ru}{l:List (Ru × Option Addr × Nat)}(s:CB w W a i k g c d f ts xs rs l):W.cell? ⟨a,0,none⟩=some (.slice i ts.length k)/\W.cell? ⟨a,1,none⟩=some (.string e0)/\W.cell? ⟨a,2,none⟩=some (.int .i64 0)/\W.cell? ⟨a,3,none⟩=some (.slice (some ⟨g,0,none⟩) (rs.length+1) c)/\(∀j,W.frozen? ⟨a,j,none⟩=false)/\W.cell? ⟨g,0,none⟩=some (.string cS)/\W.cell? ⟨g,1,none⟩=some (.slice d xs.length f)/\W.cell? ⟨g,2,none⟩=some (.string e0)/\W.frozen? ⟨g,1,none⟩=false:=by
 obtain⟨m,n,o,p,q⟩:=s.gb.cells
 have b:=s.gb.own.rul
 have r:=qpk (j:=0) b (u:=.string cS) rfl
 have h:=qpk (j:=1) b (u:=.slice d xs.length f) rfl
 have t:=qpk (j:=2) b (u:=.string e0) rfl
 exact⟨m,n,o,p,q,r.1,h.1,t.1,h.2⟩
theorem CB.lens{w W:World}{k:Nat}{l:Option Addr}{b g c:Nat}{i:Option Addr}{a:Nat}{ts:List Tk}{xs:List ByteArray}{rs:List Ru}{j:List (Ru × Option Addr × Nat)}(s:CB w W k l b g c i a ts xs rs j):rs.length+1<=c/\c<=9223372036854775807/\ts.length<=b/\b<=9223372036854775807/\xs.length<=a/\a<=9223372036854775807:=by
 have d:=z8 s.gb.own.rul
 have f:=z8 s.gb.own.tok
 have h:=z8 (s.gb.own.row (⟨cS,xs,e0⟩,i,a) (by simp))
 exact⟨d.1,d.2,f.1,f.2,h.1,h.2⟩
theorem CB.tok{w W:World}{d:Nat}{j:Option Addr}{k g c:Nat}{o:Option Addr}{p:Nat}{ts:List Tk}{xs:List ByteArray}{rs:List Ru}{l:List (Ru × Option Addr × Nat)}(s:CB w W d j k g c o p ts xs rs l)(n:Nat)(r:ts.length=n)(i:n<=1000)(x:ByteArray):
  ∃a c2 b,(Builtin.append_ #[22,22] 22 #[.slice j n k,.slice (some ⟨W.heap.size,0,none⟩) 1 1]).run Tryz.prog (W.alloc (.cells #[.string x,.int .i64 0,.int .i64 0] 58))=.ok (.slice (some ⟨a,0,none⟩) (n+1) c2) b/\b.cell? ⟨d,0,none⟩=some (.slice j n k)/\b.frozen? ⟨d,0,none⟩=false /\
   CB w (b.setCell ⟨d,0,none⟩ (.slice (some ⟨a,0,none⟩) (n+1) c2)) d (some ⟨a,0,none⟩) c2 g c o p (ts++[⟨x,0,0⟩]) xs rs l:=by
 subst r
 obtain⟨q,n,c2,b,u,i,h,m⟩:=s.gb.addTok i ⟨x,0,0⟩
 have t:=m.own.tok
 obtain⟨v,c1,e,-,-,f⟩:=zh t
 cases e
 obtain⟨a,rfl⟩:∃a,q=some ⟨a,0,none⟩:=by
  rcases f with ⟨-,f,-⟩ | f
  ·simp at f
  ·exact f
 subst i
 exact⟨a,c2,b,u,by rw[qe h];rfl,qi h 0,m,s.sep⟩
theorem CB.rule{w W:World}{f:Nat}{A:Option Addr}{B g c:Nat}{u:Option Addr}{C:Nat}{ts:List Tk}{xs:List ByteArray}{rs:List Ru}{v:List (Ru × Option Addr × Nat)}(s:CB w W f A B g c u C ts xs rs v)(n:Nat)(E:rs.length=n)(M:n<=100)(r:Ru)(k:Option Addr)(o m:Nat)(J:OwnS W w.heap.size (.slice k m o) r.r)(F:m=r.r.length)(H:r.p=e0)(K:∀b,blk u=some b->blk k≠some b):
  ∃a c2 d,(Builtin.append_ #[23,23] 23 #[.slice (some ⟨g,0,none⟩) (n+1) c,.slice (some ⟨W.heap.size,0,none⟩) 1 1]).run Tryz.prog (W.alloc (.cells #[.string r.l,.slice k m o,.string ⟨#[]⟩] 55))=.ok (.slice (some ⟨a,0,none⟩) (n+1+1) c2) d/\d.cell? ⟨f,3,none⟩=some (.slice (some ⟨g,0,none⟩) (n+1) c)/\d.frozen? ⟨f,3,none⟩=false /\
   ∃t,CB w (d.setCell ⟨f,3,none⟩ (.slice (some ⟨a,0,none⟩) (n+1+1) c2)) f A B a c2 u C ts xs (rs++[r]) t:=by
 subst E
 obtain⟨D,N,c2,d,z,j,i,x⟩:=s.gb.addRule (by simp;omega) r k o m J F
 have G:=x.own.rul
 obtain⟨L,c1,e,-,-,h⟩:=zh G
 cases e
 obtain⟨a,rfl⟩:∃a,D=some ⟨a,0,none⟩:=by
  rcases h with ⟨-,h,-⟩ | h
  ·simp at h
  ·exact h
 simp only[List.length_cons]at j
 subst j
 rw[H]at z
 refine⟨a,c2,d,z,by rw[qe i];rfl,qi i 3,v++[(r,k,o)],x,fun q I b y=>?_⟩
 rcases List.mem_append.1 I with h1 | h1
 ·exact s.sep q h1 b y
 ·rw[List.mem_singleton]at h1
  subst h1
  exact K b y
theorem CB.right{w W:World}{B:Nat}{P:Option Addr}{Q g c:Nat}{o:Option Addr}{A:Nat}{ts:List Tk}{xs:List ByteArray}{rs:List Ru}{C:List (Ru × Option Addr × Nat)}(s:CB w W B P Q g c o A ts xs rs C)(n m:Nat)(Y:xs.length=n)(X:rs.length+1=m)(hn:n<=100)(x:ByteArray):
  ∃f c2 d,(Builtin.append_ #[28,28] 28 #[.slice o n A,.slice (some ⟨W.heap.size,0,none⟩) 1 1]).run Tryz.prog (W.alloc (.cells #[.string x] 9))=.ok (.slice (some ⟨f,0,none⟩) (n+1) c2) d/\d.cell? ⟨B,3,none⟩=some (.slice (some ⟨g,0,none⟩) m c)/\d.cell? ⟨g,1,none⟩=some (.slice o n A)/\d.frozen? ⟨g,1,none⟩=false /\
   CB w (d.setCell ⟨g,1,none⟩ (.slice (some ⟨f,0,none⟩) (n+1) c2)) B P Q g c (some ⟨f,0,none⟩) c2 ts (xs++[x]) rs C:=by
 subst Y
 subst X
 have R:=s.gb.bel.size
 have K:OwnS W w.heap.size (.slice o xs.length A) xs:=s.gb.own.row (⟨cS,xs,e0⟩,o,A) (by simp)
 have D:=s.gb.own.rul
 have F:=s.gb.own.tok
 obtain⟨f,c2,d,hr,y,S,Z⟩:=jc (T:=28) (us:=[.string x]) u28 Tryz.info9 rfl (by decide) (by decide) rfl (fun u U=>by rw[List.mem_singleton]at U;subst U;rfl) K R (by omega)
 have h:Kept (fun k=>blk o=some k) W d:=((Kept.refl _ W).alloc _).trans S (fun k _ e=>zi e)
 have stay:∀{E k n:Nat} {v:Value} {cs:List Value},W.ownsRow w.heap.size E k v n cs->E≠9->d.ownsRow w.heap.size E k v n cs:=fun y M=>j8 y h (fun i N e=>qr (qx y N) (qw K e).2.2 M rfl)
 have t:d.heap[B]?=some (.cells (vu ⟨P,Q,some ⟨g,0,none⟩,c⟩ ⟨ts,e0,0,⟨cS,xs,e0⟩ :: rs⟩) 25 (0,0)):=by
  rw[h.block B (Array.getElem?_eq_some_iff.1 s.gb.box).1 (fun e=>qr ⟨_,s.gb.box⟩ (qw K e).2.2 (by decide) rfl)]
  exact s.gb.box
 have H:=stay F (by decide)
 have a:=stay D (by decide)
 have G:∀q∈C,OwnS d w.heap.size (.slice q.2.1 q.1.r.length q.2.2) q.1.r:=fun q z=>j8 (s.gb.own.row q (List.mem_cons_of_mem _ z)) h (fun i N e=>s.sep q z i e (zi N))
 have O:B≠g:=qr ⟨_,t⟩ (qx a (i:=g) rfl) (by decide)
 have c1:=qpk (j:=1) a (u:=.slice o xs.length A) rfl
 have far:∀{E k n:Nat} {v:Value} {cs:List Value},d.ownsRow w.heap.size E k v n cs->E≠55->(d.setCell ⟨g,1,none⟩ (.slice (some ⟨f,0,none⟩) (xs.length+1) c2)).ownsRow w.heap.size E k v n cs:=fun y M=>qh y (fun b J=>Below.heap_setCell _ _ _ _ (fun e=>by
  simp only at e
  subst e
  exact qfm a y (Ne.symm M) (g:=b) rfl J))
 refine⟨f,c2,d,hr,by rw[qe t];rfl,c1.1,c1.2,⟨?_,⟨far H (by decide),?_,by have:=s.gb.own.map;simpa using this,?_⟩,?_,s.gb.new⟩,fun q z b J e=>?_⟩
 ·rw[Below.heap_setCell _ _ _ _ O]
  exact t
 ·have l:=ql3 (u:=.slice (some ⟨f,0,none⟩) (xs.length+1) c2) (j:=1) a
  have L:(xs++[x]).length=xs.length+1:=by simp
  have I:(rulC ((⟨cS,xs,e0⟩,o,A) :: C)).set 1 (.slice (some ⟨f,0,none⟩) (xs.length+1) c2)=rulC ((⟨cS,xs++[x],e0⟩,some ⟨f,0,none⟩,c2) :: C):=by
   unfold rulC
   rw[List.flatMap_cons,List.flatMap_cons]
   simp only[L]
   rfl
  rw[I]at l
  exact l
 ·intro q z
  rcases List.mem_cons.1 z with l | l
  ·subst l
   have L:(xs++[x]).length=xs.length+1:=by simp
   have V:strC (xs++[x])=strC xs++[.string x]:=by unfold strC;rw[List.map_append];rfl
   unfold OwnS
   simp only[L,V]
   exact far y (by decide)
  ·exact far (G q l) (by decide)
 ·exact(s.gb.bel.trans (h.below R (fun k S e=>by have:=(qw K e).1;omega))).setCell (p:=⟨g,1,none⟩) (qw a (b:=g) rfl).1 _
 ·simp only[blk,Option.some.injEq]at J
  subst J
  have l:=qw (s.gb.own.row q (List.mem_cons_of_mem _ z)) e
  rcases Z with I | I
  ·exact s.sep q z f (zi I) e
  ·have:=l.2.1
   omega
theorem ubd(w W:World)(f:Below w.heap.size w W):CB w ((W.alloc (.cells #[.string cS,.slice none 0 0,.string e0] 55)).alloc (.cells #[.slice none 0 0,.string e0,.int .i64 0,.slice (some ⟨W.heap.size,0,none⟩) 1 1] 25)) (W.heap.size+1) none 0 W.heap.size 1 none 0 [] [] [] []:=by
 generalize b:W.alloc (.cells #[.string cS,.slice none 0 0,.string e0] 55)=a
 have h:a.heap[W.heap.size]?=some (.cells #[.string cS,.slice none 0 0,.string e0] 55 (0,0)):=by rw[<-b];exact heap_alloc_new _ _
 have g:Below W.heap.size W a:=by rw[<-b];exact qb _ _
 have s1:a.heap.size=W.heap.size+1:=by rw[<-b];exact qt _ _
 have j:=f.size
 have d:Below a.heap.size a (a.alloc (.cells #[.slice none 0 0,.string e0,.int .i64 0,.slice (some ⟨W.heap.size,0,none⟩) 1 1] 25)):=qb _ _
 have i:(a.alloc (.cells #[.slice none 0 0,.string e0,.int .i64 0,.slice (some ⟨W.heap.size,0,none⟩) 1 1] 25)).heap[W.heap.size+1]?=some (.cells #[.slice none 0 0,.string e0,.int .i64 0,.slice (some ⟨W.heap.size,0,none⟩) 1 1] 25 (0,0)):=by rw[<-s1];exact heap_alloc_new _ _
 refine⟨⟨i,⟨World.ownsRow_nil _ _ _ _,⟨rfl,.inr ⟨W.heap.size,1,_,rfl,j,qf d h,Nat.le_refl _,by unfold maxLen;omega,rfl,rfl⟩⟩,rfl,fun q c=>?_⟩,qd (qd f g) d,by omega⟩,fun q c=>by cases c⟩
 rw[List.mem_singleton]at c
 subst c
 exact World.ownsRow_nil _ _ _ _
structure RawB (w:World) (ao:Option Addr) (n cap:Nat) (zs:Nat->Bool):Prop where
 le:n<=cap/\cap<=9223372036854775807
 get:∀i,i<n->∃b o,ao=some ⟨b,o,none⟩/\w.cell? ⟨b,o+i,none⟩=some (.bool (zs i))
theorem RawB.below{w f:World}{d:Option Addr}{n a:Nat}{zs:Nat->Bool}(h:RawB w d n a zs)(g:Below w.heap.size w f):RawB f d n a zs :=
 ⟨h.le,fun i j=>by obtain⟨b,o,e,c⟩:=h.get i j;exact⟨b,o,e,qj g c⟩⟩
theorem uas{H:Type}{enc:TypeId × Value->H}{W:World}{j:Option Addr}{n f:Nat}{d:DataW H}{q:List MemPlace}(h:DataW.Trod enc Tryz.prog W 0 (fun _=>true) true 41 (.slice j n f) d q):∃zs,RawB W j n f zs:=by
 obtain⟨fuel,p⟩:=h
 rcases Deep.open_bools Tryz.underlying41 Tryz.underlying4 (by kernel_rfl) p with ⟨hcs,_⟩ | ⟨x,l,c,zs,hcs,_,hl,hm,_,hcell⟩
 ·simp[Value.cells]at hcs
  obtain⟨rfl,rfl,rfl⟩:=hcs
  exact⟨fun _=>false,⟨Nat.le_refl _,by omega⟩,fun i m=>absurd m (Nat.not_lt_zero _)⟩
 ·simp[Value.cells]at hcs
  obtain⟨rfl,rfl,rfl⟩:=hcs
  refine⟨zs,⟨hl,by unfold maxLen at hm;omega⟩,fun i m=>?_⟩
  have k:=hcell i (by omega)
  have o:=hcell 0 (by omega)
  obtain⟨b,off,g⟩:=x
  have a:g=none:=by simpa [Addr.add] using World.cell?_spot o
  subst a
  rw[Addr.add_lit]at k
  exact⟨b,off,rfl,k⟩
theorem uap(W:World)(b c i:Nat)(f:W.cell? ⟨b,0,none⟩=some (.int .u8 (c:Int)))(g:W.cell? ⟨b,1,none⟩=some (.int .u8 (97+(i:Int)))):(convert 56 9 (.slice (some ⟨b,0,none⟩) 2 2)).run Tryz.prog W=.ok (.string ⟨#[UInt8.ofNat c,UInt8.ofNat (97+i)]⟩) W:=by
 have d:((97+i:Nat):Int)=97+(i:Int):=by omega
 have:=run_convert_bytes_arg (P:=Tryz.prog) W 56 5 Tryz.underlying56 Tryz.underlying5 b 0 2 2 [(c:Int),((97+i:Nat):Int)] rfl (fun j h=>by
  have a:j=0\/j=1:=by omega
  rcases a with rfl | rfl
  ·exact f
  ·rw[d];exact g) 9 Tryz.underlying9
 exact this
end Go.Proofs.YtngclmglmhiljaaGreatDoor
namespace Go.Proofs.YtngclmglmhiljaaGreatDoor.Chains
open Go.RowKit
def La (l:List Bool) (n m:Nat):Prop:=(m=n/\∀k,k<l.length->l[k]?=some false)\/(m<l.length/\(∀k,k<m->l[k]?=some false)/\l[m]?=some true)
theorem La.fu{l:List Bool}{m:Nat}(h:La l l.length m):Fu l m:=by
 rcases h with ⟨rfl,h⟩ | ⟨h1,h2,h3⟩
 ·exact⟨Nat.le_refl _,h,fun h=>absurd h (Nat.lt_irrefl _)⟩
 ·exact⟨Nat.le_of_lt h1,h2,fun _=>h3⟩
theorem La.no{l:List Bool}{n m:Nat}(h:La l n m):La (l++[false]) n m:=by
 rcases h with ⟨rfl,h⟩ | ⟨h1,h2,h3⟩
 ·refine .inl ⟨rfl,fun k a=>?_⟩
  rw[List.length_append,List.length_singleton]at a
  rcases Nat.lt_or_ge k l.length with h4 | h4
  ·rw[List.getElem?_append_left h4];exact h k h4
  ·obtain rfl:k=l.length:=by omega
   simp
 ·refine .inr ⟨by rw[List.length_append];omega,fun k a=>?_,?_⟩
  ·rw[List.getElem?_append_left (by omega)];exact h2 k a
  ·rw[List.getElem?_append_left h1];exact h3
theorem La.old{l:List Bool}{n m:Nat}(h:La l n m)(b:m≠n):La (l++[true]) n m:=by
 rcases h with ⟨h,-⟩ | ⟨h1,h2,h3⟩
 ·exact absurd h b
 ·refine .inr ⟨by rw[List.length_append];omega,fun k a=>?_,?_⟩
  ·rw[List.getElem?_append_left (by omega)];exact h2 k a
  ·rw[List.getElem?_append_left h1];exact h3
theorem La.new{l:List Bool}{n i:Nat}(h:La l n n)(b:l.length=i)(c:i<n):La (l++[true]) n i:=by
 subst b
 rcases h with ⟨-,h⟩ | ⟨h1,-,-⟩
 ·refine .inr ⟨by simp,fun k a=>?_,by simp⟩
  rw[List.getElem?_append_left a];exact h k a
 ·omega
structure CR (V wr:World) (gb:Nat) (n i m:Nat) (l:List Bool):Prop where
 len:l.length=i
 la:La l n m
 cb:∃ta tc g c xa xc qr,CB V wr gb ta tc g c xa xc (chT i) (chX i) (chR 0 l) qr
structure CM (V wr:World) (gb:Nat) (n i m:Nat) (l:List Bool):Prop where
 len:l.length=i
 la:La l n m
 cb:∃ta tc g c xa xc qr,CB V wr gb ta tc g c xa xc (chT (i+1)) (chX (i+1)) (chR 0 l++[⟨cX i,[cT i],e0⟩]) qr
theorem CM.full{V wr:World}{a n i m b:Nat}{l:List Bool}(h:CM V wr a n i m l)(j:La (l++[true]) n b):CR V wr a n (i+1) b (l++[true]):=by
 obtain⟨rfl,-,k,o,g,c,p,q,d,f⟩:=h
 refine⟨by simp,j,k,o,g,c,p,q,d,?_⟩
 rw[uae,Nat.zero_add]
 exact f
theorem CM.m_le{V wr:World}{a n i m:Nat}{l:List Bool}(h:CM V wr a n i m l)(b:i<n):m<=n:=by
 rcases h.la with ⟨h1,-⟩ | ⟨h1,-⟩
 ·omega
 ·have:=h.len;omega
theorem uaf(b:Bool)(w:World):Calls Tryz.prog 24 #[.bool b] w fun e a=>e=.returned (.int .i64 (if b=true then 1 else 0))/\a=w:=by
 cases b <;> (go_enter Tryz.func24,Tryz.ntmps24;go_wp2_with fail;go_ret;exact⟨rfl,rfl⟩)
theorem walk(n0:Int)(la:Option Addr)(ln lc:Nat)(zs:Nat->Bool)(w:World)(hp:Pow w)(hL:RawB w la ln lc zs):Calls Tryz.prog 7 #[.int .i64 n0,.slice la ln lc] w fun e D=>e=.returned (.bool true)/\Below w.heap.size w D:=by
 obtain⟨k6,l1⟩:=hL.le
 have HP:Hid (RawB w la ln lc zs/\Pow w):=⟨hL,hp⟩
 clear hL hp
 go_enter Tryz.func7,Tryz.ntmps7
 go_wp2_with fail
 refine(qku w HP.out.2).mono ?_
 rintro e V ⟨rfl,hB⟩
 have HB:Hid (RawB V la ln lc zs/\Below w.heap.size w V):=⟨HP.out.1.below hB,hB⟩
 clear hB HP
 by_cases l2:n0<1
 ·go_wp2_with fail
  go_ret
  exact⟨rfl,HB.out.2⟩
 by_cases l3:6<n0
 ·go_wp2_with fail
  go_ret
  exact⟨rfl,HB.out.2⟩
 obtain⟨n,rfl⟩:∃n:Nat,n0=(n:Int):=⟨n0.toNat,by omega⟩
 have hn:1<=n/\n<=6:=by omega
 go_upto_region 7 with fail
 have t:CB V ((V.alloc (.cells #[.string ⟨#[115]⟩,.slice none 0 0,.string ⟨#[]⟩] 55)).alloc (.cells #[.slice none 0 0,.string ⟨#[]⟩,.int .i64 0,.slice (some ⟨V.heap.size,0,none⟩) 1 1] 25)) (V.heap.size+1) none 0 V.heap.size 1 none 0 [] [] [] []:=ubd V V (Below.refl _ _)
 have H0:Hid (CR V ((V.alloc (.cells #[.string ⟨#[115]⟩,.slice none 0 0,.string ⟨#[]⟩] 55)).alloc (.cells #[.slice none 0 0,.string ⟨#[]⟩,.int .i64 0,.slice (some ⟨V.heap.size,0,none⟩) 1 1] 25)) (V.heap.size+1) n 0 n []):=⟨rfl,.inl ⟨rfl,fun k hk=>absurd hk (Nat.not_lt_zero _)⟩,_,_,_,_,_,_,_,t⟩
 clear t
 generalize (V.alloc (.cells #[.string ⟨#[115]⟩,.slice none 0 0,.string ⟨#[]⟩] 55)).alloc (.cells #[.slice none 0 0,.string ⟨#[]⟩,.int .i64 0,.slice (some ⟨V.heap.size,0,none⟩) 1 1] 25)=W1 at H0 ⊢
 generalize V.heap.size+1=s at H0 ⊢
 go_upto_block 0 with fail
 go_cut [7] (fun s7 wd=>∃m:Nat,s7=.int .i64 m/\Hid (∃l,CR V wd s n n m l))
 case first =>
  go_wp2_with fail
  go_loopg [7,8] n (fun kx s7 s8 wr=>∃i m:Nat,s7=.int .i64 m/\s8=.int .i64 i/\i<=n/\n - i<=kx/\Hid (∃l,CR V wr s n i m l))
  case atStart=>exact⟨0,n,rfl,rfl,by omega,by omega,_,H0⟩
  case round =>
   clear H0
   obtain⟨i,m,rfl,rfl,hi,hg,J⟩:=hrel
   by_cases c8:i<n
   ·have a2:(i:Int)<(n:Int):=by omega
    have i8:i<6:=by omega
    have k4:0<=(97+(i:Int)):=by omega
    have k5:(97+(i:Int))<=255:=by omega
    go_upto_region 11 with fail
    have g9:∀(W:World) (b:Nat),W.cell? ⟨b,0,none⟩=some (.int .u8 84)->W.cell? ⟨b,1,none⟩=some (.int .u8 (97+(i:Int)))->(convert 56 9 (.slice (some ⟨b,0,none⟩) 2 2)).run Tryz.prog W=.ok (.string (cT i)) W:=fun W b h0 h1=>uap W b 84 i h0 h1
    have h3:∀(W:World) (b:Nat),W.cell? ⟨b,0,none⟩=some (.int .u8 120)->W.cell? ⟨b,1,none⟩=some (.int .u8 (97+(i:Int)))->(convert 56 9 (.slice (some ⟨b,0,none⟩) 2 2)).run Tryz.prog W=.ok (.string (cX i)) W:=fun W b h0 h1=>uap W b 120 i h0 h1
    go_cut [9,10] (fun s9 s10 wd=>s9=.string (cT i)/\s10=.string (cX i)/\Hid (Below wr.heap.size wr wd))
    case first =>
     go_region
     all_goals (go_wp2_with fail;go_meet;exact⟨rfl,rfl,(qd (qb _ _) (qb _ _)).drew⟩)
    case rest =>
     obtain⟨rfl,rfl,d3⟩:=hcut
     obtain⟨w2,l4⟩:∃w2,w2=wc:=⟨_,rfl⟩
     subst wc
     clear g9 h3
     obtain⟨l,h4⟩:=J.out
     obtain⟨f,a1,ta,tc,g,c,xa,xc,L4,a9⟩:=h4
     have x:Hid (l.length=i/\La l n m):=⟨f,a1⟩
     obtain⟨r,B⟩:∃r,Hid ((chR 0 l).length=r):=⟨_,rfl⟩
     have a8:r<=12:=by have:=yr l 0;have:=B.out;omega
     have Z:=a9.step d3.out
     obtain⟨g2,c2,U,hr,d0,f0,b0⟩:=Z.tok i (ka i) (by omega) (cT i)
     have k0:w2.cell? ⟨s,0,none⟩=some (.slice ta i tc):=by have:=Z.cells.1;rwa [ka]at this
     have O:Hid (CB V (U.setCell ⟨s,0,none⟩ (.slice (some ⟨g2,0,none⟩) (i+1) c2)) s (some ⟨g2,0,none⟩) c2 g c xa xc (chT (i+1)) (chX i) (chR 0 l) L4):=by show CB _ _ _ _ _ _ _ _ _ _ _ _ _;rw[uai];exact b0
     clear f a1 a9 Z b0 d3 J
     go_upto_region 13 with (at_builtin;refine Lib.wpList_append_run _ rfl _ _ _ _ rfl _ _ rfl rfl _ _ hr ?_)
     generalize U.setCell ⟨s,0,none⟩ (.slice (some ⟨g2,0,none⟩) (i+1) c2)=w3 at O ⊢
     clear hr d0 f0 k0
     have h5:r+1<=c/\c<=9223372036854775807:=by have:=O.out.lens;have:=B.out;omega
     have b3:w3.cell? ⟨s,3,none⟩=some (.slice (some ⟨g,0,none⟩) (r+1) c):=by have:=O.out.cells.2.2.2.1;rwa [B.out]at this
     have G:w3.cell? ⟨g,1,none⟩=some (.slice xa i xc):=by have:=O.out.cells.2.2.2.2.2.2.1;rwa [xp]at this
     obtain⟨g3,c3,U3,f6,e3,e1,ef,b2⟩:=(O.out.step (qk w3)).right i (r+1) (xp i) (by rw[B.out]) (by omega) (cX i)
     have b5:(Builtin.append_ #[28,28] 28 #[.slice xa i xc,.slice (some ⟨w3.heap.size,0,none⟩) 1 1]).run Tryz.prog (w3.alloc (.cells #[.string (cX i)] 9)).drew=.ok (.slice (some ⟨g3,0,none⟩) (i+1) c3) U3:=f6
     have g1:=qo b3 (.cells #[.string (cX i)] 9)
     have g0:=qo G (.cells #[.string (cX i)] 9)
     have d4:Hid (CB V (U3.setCell ⟨g,1,none⟩ (.slice (some ⟨g3,0,none⟩) (i+1) c3)) s (some ⟨g2,0,none⟩) c2 g c (some ⟨g3,0,none⟩) c3 (chT (i+1)) (chX (i+1)) (chR 0 l) L4):=by show CB _ _ _ _ _ _ _ _ _ _ _ _ _;rw[uaj];exact b2
     clear f6 b2 O
     go_cut [9,10] (fun s9 s10 wd=>s9=.string (cT i)/\s10=.string (cX i)/\Hid (∃ta tc g c xa xc L4,CB V wd s ta tc g c xa xc (chT (i+1)) (chX (i+1)) (chR 0 l) L4))
     case first =>
      go_region_law(refine zc rfl (.tmp 57) (.tmp 59) rfl rfl (by simp[Act.eval]) (by simp[Act.eval]) b5 ?_)
      all_goals (go_wp2_with fail;go_meet;exact⟨rfl,rfl,_,_,_,_,_,_,_,d4⟩)
     case rest =>
      clear d4 b5 b3 G g1 g0 e3 e1 ef h5
      obtain⟨rfl,rfl,l8,l9,g4,c4,f9,i5,L2,y⟩:=hcut
      obtain⟨N,l5⟩:∃N,N=wc:=⟨_,rfl⟩
      subst wc
      have hv:Below N.heap.size N (N.alloc (.cells #[.string (cT i)] 9)):=qb _ _
      have b8:OwnS (N.alloc (.cells #[.string (cT i)] 9)) V.heap.size (.slice (some ⟨N.heap.size,0,none⟩) 1 1) [cT i]:=vz N V.heap.size 9 1 1 [.string (cT i)] y.gb.bel.size rfl (by omega)
      have b7:∀b,blk f9=some b->blk (some (⟨N.heap.size,0,none⟩:Addr))≠some b:=fun b hb e=>by
       have h1:=(qw (y.gb.own.row (⟨cS,chX (i+1),e0⟩,f9,i5) (by simp)) hb).2.1
       simp only[blk,Option.some.injEq]at e
       omega
      have b3:N.cell? ⟨s,3,none⟩=some (.slice (some ⟨g4,0,none⟩) (r+1) c4):=by have:=y.cells.2.2.2.1;rwa [B.out]at this
      obtain⟨g5,c5,U5,c9,q3,L3,L1,b4⟩:=(y.step hv).rule r B.out (by omega) ⟨cX i,[cT i],e0⟩ (some ⟨N.heap.size,0,none⟩) 1 1 b8 rfl rfl b7
      have b6:(Builtin.append_ #[23,23] 23 #[.slice (some ⟨g4,0,none⟩) (r+1) c4,.slice (some ⟨N.heap.size+1,0,none⟩) 1 1]).run Tryz.prog ((N.alloc (.cells #[.string (cT i)] 9)).alloc (.cells #[.string (cX i),.slice (some ⟨N.heap.size,0,none⟩) 1 1,.string ⟨#[]⟩] 55))=.ok (.slice (some ⟨g5,0,none⟩) (r+1+1) c5) U5:=by
       rw[qt]at c9
       exact c9
      have S:Hid (CM V (U5.setCell ⟨s,3,none⟩ (.slice (some ⟨g5,0,none⟩) (r+1+1) c5)) s n i m l):=⟨x.out.1,x.out.2,_,_,_,_,_,_,_,b4⟩
      clear c9 b4 b7 b8 hv y
      go_upto_region 15 with (at_builtin;refine Lib.wpList_append_run _ rfl _ _ _ _ rfl _ _ rfl rfl _ _ b6 ?_)
      generalize U5.setCell ⟨s,3,none⟩ (.slice (some ⟨g5,0,none⟩) (r+1+1) c5)=w5 at S ⊢
      clear b6 b3 q3 L3
      obtain⟨f1,u⟩:Below V.heap.size V w5/\∃(g6 c6 g7 c7:Nat) (U7:World),Hid (w5.cell? ⟨s,3,none⟩=some (.slice (some ⟨g6,0,none⟩) (r+1+1) c6)/\(Builtin.append_ #[23,23] 23 #[.slice (some ⟨g6,0,none⟩) (r+1+1) c6,.slice (some ⟨w5.heap.size,0,none⟩) 1 1]).run Tryz.prog (w5.alloc (.cells #[.string (cX i),.slice none 0 0,.string ⟨#[]⟩] 55))=.ok (.slice (some ⟨g7,0,none⟩) (r+1+1+1) c7) U7/\U7.cell? ⟨s,3,none⟩=some (.slice (some ⟨g6,0,none⟩) (r+1+1) c6)/\U7.frozen? ⟨s,3,none⟩=false/\CR V (U7.setCell ⟨s,3,none⟩ (.slice (some ⟨g7,0,none⟩) (r+1+1+1) c7)) s n (i+1) m (l++[false])):=by
       obtain⟨-,-,h9,i0,g6,c6,i2,i6,L5,a0⟩:=S.out
       have f3:(chR 0 l++[(⟨cX i,[cT i],e0⟩:Ru)]).length=r+1:=by rw[List.length_append,B.out];rfl
       have b3:=a0.cells.2.2.2.1
       rw[f3]at b3
       obtain⟨g7,c7,U7,a4,r3,rf,L6,f2⟩:=a0.rule (r+1) f3 (by omega) ⟨cX i,[],e0⟩ none 0 0 (World.ownsRow_nil _ _ _ _) rfl rfl (fun b hb e=>by cases e)
       refine⟨a0.gb.bel,g6,c6,g7,c7,U7,b3,a4,r3,rf,by rw[List.length_append,x.out.1];rfl,x.out.2.no,h9,i0,g7,c7,i2,i6,L6,?_⟩
       have e1:chR 0 (l++[false])=chR 0 l++[⟨cX i,[cT i],e0⟩]++[⟨cX i,[],e0⟩]:=by rw[uae,Nat.zero_add,x.out.1,List.append_assoc];rfl
       rw[e1]
       exact f2
      by_cases h6:i<ln
      ·have f4:(i:Int)<(ln:Int):=by omega
       obtain⟨b,o,rfl,cz⟩:=(HB.out.1.below f1).get i h6
       cases hz:zs i
       ·rw[hz]at cz
        obtain⟨g6,c6,g7,c7,U7,HE⟩:=u
        obtain⟨b3,a4,r3,rf,-⟩:=HE.out
        go_wp2_with(at_builtin;refine Lib.wpList_append_run _ rfl _ _ _ _ rfl _ _ rfl rfl _ _ a4 ?_)
        go_roundg (n - (i+1))
        case measure=>omega
        case rel=>exact⟨i+1,m,rfl,by simp,by omega,Nat.le_refl _,_,HE.out.2.2.2.2⟩
       ·rw[hz]at cz
        clear u
        by_cases a3:m=n
        ·have z:((m:Int) == (n:Int))=true:=by rw[beq_iff_eq];omega
         have HF:Hid (∃l,CR V w5 s n (i+1) i l):=⟨_,S.out.full (La.new (by have:=x.out.2;rw[a3]at this;exact this) x.out.1 c8)⟩
         clear S
         go_wp2_with fail
         go_roundg (n - (i+1))
         case measure=>omega
         case rel=>exact⟨i+1,i,rfl,by simp,by omega,Nat.le_refl _,HF⟩
        ·have z:((m:Int) == (n:Int))=false:=by rw[beq_eq_false_iff_ne];omega
         have HF:Hid (∃l,CR V w5 s n (i+1) m l):=⟨_,S.out.full (x.out.2.old a3)⟩
         clear S
         go_wp2_with fail
         go_roundg (n - (i+1))
         case measure=>omega
         case rel=>exact⟨i+1,m,rfl,by simp,by omega,Nat.le_refl _,HF⟩
      ·have f4:¬(i:Int)<(ln:Int):=by omega
       obtain⟨g6,c6,g7,c7,U7,HE⟩:=u
       obtain⟨b3,a4,r3,rf,-⟩:=HE.out
       go_wp2_with(at_builtin;refine Lib.wpList_append_run _ rfl _ _ _ _ rfl _ _ rfl rfl _ _ a4 ?_)
       go_roundg (n - (i+1))
       case measure=>omega
       case rel=>exact⟨i+1,m,rfl,by simp,by omega,Nat.le_refl _,_,HE.out.2.2.2.2⟩
   ·obtain rfl:i=n:=by omega
    have a2:¬(i:Int)<(i:Int):=by omega
    go_wp2_with fail
    go_meet
    exact⟨m,rfl,J⟩
 case rest =>
  obtain⟨m,rfl,J⟩:=hcut
  obtain⟨R,l6⟩:∃R,R=wc:=⟨_,rfl⟩
  subst wc
  clear H0
  obtain⟨l,f,a1,ta,tc,g,c,xa,xc,L4,t⟩:=J.out
  obtain⟨r,a8⟩:∃r,(chR 0 l).length=r:=⟨_,rfl⟩
  have a7:Hid (l.length=n/\Fu l m):=⟨f,La.fu (by rw[f];exact a1)⟩
  have k0:R.cell? ⟨s,0,none⟩=some (.slice ta n tc):=by have:=t.cells.1;rwa [ka]at this
  have k1:R.cell? ⟨s,1,none⟩=some (.string ⟨#[]⟩):=t.cells.2.1
  have k2:R.cell? ⟨s,2,none⟩=some (.int .i64 0):=t.cells.2.2.1
  have k3:R.cell? ⟨s,3,none⟩=some (.slice (some ⟨g,0,none⟩) (r+1) c):=by have:=t.cells.2.2.2.1;rwa [a8]at this
  have HG:Hid (IsG R ⟨ta,tc,some ⟨g,0,none⟩,c⟩ (chG l)/\Below w.heap.size w R):=by
   have hs:=ua3 (l:=l) (by omega)
   have ho:=t.gb.own
   unfold chG at hs ⊢
   rw[f]at hs ⊢
   exact⟨ho.isG hs,qd HB.out.2 t.gb.bel⟩
  have d6:Hid (Calls Tryz.prog 10 #[.agg #[.slice ta n tc,.string ⟨#[]⟩,.int .i64 0,.slice (some ⟨g,0,none⟩) (r+1) c]] R fun e D=>∃(h':SHd) (a b c d:Nat),e=.returned (.tuple #[.agg (chC n a b c d h'),.int .i64 0])/\IsSp D h' (spG (chG l))/\Below R.heap.size R D/\sv h' (spG (chG l))=.agg (chC n a b c d h')):=by
   have:=uam R ⟨ta,tc,some ⟨g,0,none⟩,c⟩ l n f (by omega) HG.out.1
   have e1:gv ⟨ta,tc,some ⟨g,0,none⟩,c⟩ (chG l)=.agg #[.slice ta n tc,.string ⟨#[]⟩,.int .i64 0,.slice (some ⟨g,0,none⟩) (r+1) c]:=by
    unfold gv chG
    simp only[ka,f,List.length_cons,a8]
    rfl
   rw[e1]at this
   exact this
  clear f a1 t J a8
  go_wp2_with fail
  refine d6.out.mono ?_
  rintro e X ⟨⟨H,I,h,p,E,F,K,L⟩,a,b,P,Q,rfl,f7,d8,f8⟩
  have hv:Below X.heap.size X (X.alloc (.cells (chC n a b P Q ⟨H,I,h,p,E,F,K,L⟩) 31)):=qb _ _
  have H4:Hid (Below w.heap.size w (X.alloc (.cells (chC n a b P Q ⟨H,I,h,p,E,F,K,L⟩) 31))/\IsSp (X.alloc (.cells (chC n a b P Q ⟨H,I,h,p,E,F,K,L⟩) 31)) ⟨H,I,h,p,E,F,K,L⟩ (spG (chG l))/\(X.alloc (.cells (chC n a b P Q ⟨H,I,h,p,E,F,K,L⟩) 31)).heap[X.heap.size]?=some (.cells (chC n a b P Q ⟨H,I,h,p,E,F,K,L⟩) 31 (0,0))):=⟨qd (qd HG.out.2 d8) hv,f7.below hv,heap_alloc_new _ _⟩
  have d7:Hid (sv ⟨H,I,h,p,E,F,K,L⟩ (spG (chG l))=.agg (chC n a b P Q ⟨H,I,h,p,E,F,K,L⟩)):=f8
  clear f7 d8 hv HG d6 f8 k0 k1 k2 k3
  unfold chC
  go_upto_region 22 with fail
  have e4:X.alloc (.cells #[.int .i64 (n:Int),.int .i64 ((n:Int)+1),.int .i64 ((n:Int)+1),.int .i64 0,.slice H a I,.slice h b p,.slice E P F,.slice K Q L] 31)=X.alloc (.cells (chC n a b P Q ⟨H,I,h,p,E,F,K,L⟩) 31):=rfl
  rw[e4]
  generalize X.alloc (.cells (chC n a b P Q ⟨H,I,h,p,E,F,K,L⟩) 31)=V5 at H4 ⊢
  generalize X.heap.size=G at H4 ⊢
  clear e4
  have HN:Hid (Calls Tryz.prog 17 #[.agg #[.int .i64 (n:Int),.int .i64 ((n:Int)+1),.int .i64 ((n:Int)+1),.int .i64 0,.slice H a I,.slice h b p,.slice E P F,.slice K Q L]] V5 fun e D=>∃fb,e=.returned (.pointer (some ⟨fb,0,none⟩))/\ChA D fb n m/\Below V5.heap.size V5 D):=by
   have:=uan V5 _ l n m a7.out.1 hn a7.out.2 H4.out.2.1
   rw[d7.out]at this
   exact this
  have C:∀(V:World),V.heap[G]?=some (.cells (chC n a b P Q ⟨H,I,h,p,E,F,K,L⟩) 31 (0,0))->V.cell? ⟨G,0,none⟩=some (.int .i64 (n:Int))/\V.cell? ⟨G,1,none⟩=some (.int .i64 ((n:Int)+1))/\V.cell? ⟨G,2,none⟩=some (.int .i64 ((n:Int)+1))/\V.cell? ⟨G,3,none⟩=some (.int .i64 0)/\V.cell? ⟨G,4,none⟩=some (.slice H a I)/\V.cell? ⟨G,5,none⟩=some (.slice h b p)/\V.cell? ⟨G,6,none⟩=some (.slice E P F)/\V.cell? ⟨G,7,none⟩=some (.slice K Q L):=fun V hV=>⟨by rw[qe hV];rfl,by rw[qe hV];rfl,by rw[qe hV];rfl,by rw[qe hV];rfl,by rw[qe hV];rfl,by rw[qe hV];rfl,by rw[qe hV];rfl,by rw[qe hV];rfl⟩
  obtain⟨c0,c1,c2,c3,c4,c5,c6,c7⟩:=C V5 H4.out.2.2
  go_wp2_with fail
  refine HN.out.mono ?_
  rintro e V6 ⟨fb,rfl,hA,b9⟩
  clear c0 c1 c2 c3 c4 c5 c6 c7 HN
  have d5:Hid (∀V,Below V6.heap.size V6 V->V.cell? ⟨G,0,none⟩=some (.int .i64 (n:Int))/\V.cell? ⟨G,2,none⟩=some (.int .i64 ((n:Int)+1))):=fun V hV=>by
   obtain⟨c0,-,c2,-⟩:=C V (qf hV (qf b9 H4.out.2.2))
   exact⟨c0,c2⟩
  obtain⟨M,S⟩:∃M,Hid (min (m+1) n=M):=⟨_,rfl⟩
  have H6:Hid (ChA V6 fb n m/\Below w.heap.size w V6):=⟨hA,qd H4.out.1 b9⟩
  clear hA b9 C H4 d7
  have c2:=(d5.out V6 (Below.refl _ _)).2
  go_wp2_with fail
  refine((H6.out.1 V6 (Below.refl _ _)).1).mono ?_
  rintro e V7 ⟨lp,lq,rfl,A,d9⟩
  rw[S.out,List.length_range]at A ⊢
  have H7:Hid (Row V7 1 lp M lq (natC (List.range M))/\Below V6.heap.size V6 V7):=⟨A,d9⟩
  have l0:M<=lq/\lq<=9223372036854775807:=⟨A.le,A.max⟩
  clear A d9 c2
  go_upto_block 2 with fail
  go_cut [14] (fun s14 wd=>s14=.slice lp M lq/\Hid (wd=V7))
  case first =>
   go_wp2_with fail
   go_loopg [15] M (fun kx s15 wr=>∃j:Nat,s15=.int .i64 j/\j<=M/\M - j<=kx/\Hid (wr=V7))
   case atStart=>exact⟨0,rfl,by omega,by omega,rfl⟩
   case round =>
    obtain⟨j,rfl,hj,hg,J⟩:=hrel
    have hJ:=J.out
    subst hJ
    clear J
    by_cases c8:j<M
    ·have a2:(j:Int)<(M:Int):=by omega
     obtain⟨b,o,rfl,hc⟩:=H7.out.1.at (by omega)
     have cz:=hc j (.int .i64 (j:Int)) (by simp[natC,c8])
     clear hc
     go_wp2_with fail
     go_roundg (M - (j+1))
     case measure=>omega
     case rel=>exact⟨j+1,by simp,by omega,Nat.le_refl _,rfl⟩
    ·have a2:¬(j:Int)<(M:Int):=by omega
     go_wp2_with fail
     go_meet
     exact⟨rfl,rfl⟩
  case rest =>
   obtain⟨rfl,hw⟩:=hcut
   have h7:=hw.out
   clear hw
   subst h7
   obtain⟨w9,l7⟩:∃w9,w9=wc:=⟨_,rfl⟩
   subst wc
   have i7:min ((m:Int)+1) (n:Int)=(M:Int):=by have:=S.out;omega
   have k7:(m:Int)<=6:=by have h1:=a7.out.2.1;have h2:=a7.out.1;omega
   obtain⟨c0,c2⟩:=d5.out w9 H7.out.2
   by_cases a3:m=n
   ·have z:((m:Int) == (n:Int))=true:=by rw[beq_iff_eq];omega
    have u:Hid (Calls Tryz.prog 23 #[.pointer (some ⟨fb,0,none⟩),.int .i64 ((n:Int)+1)] w9 fun e D=>e=.returned (.bool true)/\D=w9):=by
     have:=(H6.out.1 w9 H7.out.2).2.1
     rw[z]at this
     exact this
    go_wp2_with fail
    refine u.out.mono ?_
    rintro e q ⟨rfl,rfl⟩
    clear u
    have g8:=qo c0 (.cells #[.int .i64 ((n:Int)+1)] 3)
    have T:Hid (Calls Tryz.prog 19 #[.pointer (some ⟨fb,0,none⟩),.slice (some ⟨q.heap.size,0,none⟩) 1 1,.int .i64 (n:Int)] (q.alloc (.cells #[.int .i64 ((n:Int)+1)] 3)) fun e D=>Lst (q.alloc (.cells #[.int .i64 ((n:Int)+1)] 3)) D (List.range (M+1)) e):=by
     have:=(H6.out.1 _ (qd H7.out.2 (qb q (.cells #[.int .i64 ((n:Int)+1)] 3)))).2.2 (some ⟨q.heap.size,0,none⟩) (qcb q [n+1] 1 rfl (by omega))
     rw[S.out,if_pos a3]at this
     exact this
    go_wp2_with fail
    refine T.out.mono ?_
    rintro e a6 ⟨h8,a5,rfl,v,Y⟩
    rw[List.length_range]at v ⊢
    have HF:Hid (Below w.heap.size w a6):=qd H6.out.2 (qd (qd H7.out.2 (qb _ _)) Y)
    have f5:M+1<=a5/\a5<=9223372036854775807:=⟨v.le,v.max⟩
    clear v Y T
    go_wp2_with fail
    refine(uaf true a6).mono ?_
    rintro e i1 ⟨rfl,rfl⟩
    go_wp2_with fail
    go_ret
    exact⟨rfl,HF.out⟩
   ·have z:((m:Int) == (n:Int))=false:=by rw[beq_eq_false_iff_ne];omega
    have u:Hid (Calls Tryz.prog 23 #[.pointer (some ⟨fb,0,none⟩),.int .i64 ((n:Int)+1)] w9 fun e D=>e=.returned (.bool false)/\D=w9):=by
     have:=(H6.out.1 w9 H7.out.2).2.1
     rw[z]at this
     exact this
    go_wp2_with fail
    refine u.out.mono ?_
    rintro e q ⟨rfl,rfl⟩
    clear u
    have g8:=qo c0 (.cells #[.int .i64 ((n:Int)+1)] 3)
    have T:Hid (Calls Tryz.prog 19 #[.pointer (some ⟨fb,0,none⟩),.slice (some ⟨q.heap.size,0,none⟩) 1 1,.int .i64 (n:Int)] (q.alloc (.cells #[.int .i64 ((n:Int)+1)] 3)) fun e D=>Lst (q.alloc (.cells #[.int .i64 ((n:Int)+1)] 3)) D (List.range (M+0)) e):=by
     have:=(H6.out.1 _ (qd H7.out.2 (qb q (.cells #[.int .i64 ((n:Int)+1)] 3)))).2.2 (some ⟨q.heap.size,0,none⟩) (qcb q [n+1] 1 rfl (by omega))
     rw[S.out,if_neg a3]at this
     exact this
    go_wp2_with fail
    refine T.out.mono ?_
    rintro e a6 ⟨h8,a5,rfl,v,Y⟩
    rw[List.length_range]at v ⊢
    have HF:Hid (Below w.heap.size w a6):=qd H6.out.2 (qd (qd H7.out.2 (qb _ _)) Y)
    have f5:M+0<=a5/\a5<=9223372036854775807:=⟨v.le,v.max⟩
    clear v Y T
    go_wp2_with fail
    refine(uaf false a6).mono ?_
    rintro e i1 ⟨rfl,rfl⟩
    go_wp2_with fail
    go_ret
    exact⟨rfl,HF.out⟩
end Go.Proofs.YtngclmglmhiljaaGreatDoor.Chains
namespace Go.Proofs.YtngclmglmhiljaaGreatDoor.Chains
open Go.ChangeShapes Go.WideShapes Go.ChangeAt Go.RowKit
open Go.ChangeMaps (open_string shut_string)

theorem lifted(os : Os)(c : os.Started)(H : Type)(enc : TypeId × Value -> H):
    ReturnsInHanded {} Tryz.checked os 7 .any (fun w args => (Rows.firstChainsSpec.pre enc Tryz.prog Tryz.f7 [] false w args /\ laidMetH Tryz.prog qg3 w) /\ sizedMet enc Tryz.prog Tryz.f7 (OpenSpec.ofChange Rows.firstChainsSpec) false w args) (Rows.firstChainsSpec.post enc Tryz.prog Tryz.f7 false true false false) := by
  refine returnsInHanded_of_change_and (C := Tryz.checked) (X := fun w _ => laidMetH Tryz.prog qg3 w) (fun _ _ _ I h => h.of_heap I) own c (by kernel_rfl) Tryz.func7
    (ChangeSpec.witness_shaped (enc := enc) (C := Tryz.checked) (os := os) (X := fun w _ => laidMetH Tryz.prog qg3 w) false (World.doorLaid Tryz.prog 136 os) #[.int .i64 0, .slice none 0 0] 8 rfl (World.shaped_of_RefB (by kernel_rfl) (by kernel_rfl)) (by kernel_rfl) (by kernel_rfl) (by kernel_rfl) (qqv os _)) ?_
  intro W d args z V k b r _ _ E _
  have a : ∀(j : Nat) t v, Tryz.f7.params[j]? = some t -> args[j]? = some v -> Value.okWide Tryz.prog W .any d t v := b
  have g := r
  obtain⟨p, q, f, F, rfl, _, _⟩ := r
  have o : DataW.TrodAll enc Tryz.prog W 0 (fun _ => true) true Tryz.f7.params.toList args.toList z p := f
  rw[Tryz.params7]at o a
  obtain⟨v0, O, T, A, Y, Z, _, rfl, rfl, D, M⟩ := trodAll_cons o
  obtain⟨v1, P, U, B, L, q1, rfl, rfl, rfl, n, N⟩ := trodAll_cons M
  obtain⟨rfl, rfl, rfl⟩ := trodAll_nil N
  obtain rfl : args = #[v0, v1] := by cases args; simp_all
  obtain⟨rfl, rfl⟩ := trodVars_none F
  obtain⟨y, rfl, rfl, rfl, Q⟩ := open_int Tryz.underlying3 (a 0 3 v0 rfl rfl) D
  have s := n
  have l : ∀x ∈ L, x.block < W.heap.size := by obtain⟨m, J⟩ := s; exact DataW.trod_lt m _ _ _ J
  obtain⟨u, K, c1, rfl⟩ := okWide_slice Tryz.underlying41 (a 1 41 v1 rfl rfl)
  obtain⟨R, i⟩ := uas n
  clear f b
  simp only[List.append_nil]at g
  refine(walk y u K c1 R W (qlu E) i ).mono fun e S ⟨G, bel⟩ => ?_
  subst G
  exact⟨_, rfl, _, _, _, [], _, [], g, trodAll_mk1 (shut_bool Tryz.underlying4 _), (trodAll_cons_mk (shut_int Tryz.underlying3 Q) (trodAll_cons_mk (Below.trod qo7 (by kernel_rfl) (of_decide_eq_true (by kernel_rfl)) s bel l) trodAll_mk0)), rfl, bel.frame _, fun h => by cases h⟩

theorem over: Rows.firstChainsRow.holds Tryz.pinned (OpenSpec.ofChange Rows.firstChainsSpec) :=
  OpenClaim.holds_of_wide 7 Tryz.f7 rfl rfl rfl rfl rfl rfl rfl ⟨rfl, rfl, rfl, rfl, rfl⟩ rfl rfl rfl rfl rfl (by kernel_rfl) Tryz.func7 (by kernel_rfl)
    (of_decide_eq_true (by kernel_rfl)) (by unfold Func.isWrapper; first | (rw[if_pos (by decide +kernel)]; kernel_rfl) | (rw[if_neg (by decide +kernel)]; exact⟨rfl, rfl⟩))
    (fun os a H enc _ => lifted os a H enc)

theorem card: Claim7.holds Tryz.pinned (.plain (OpenSpec.ofChange Rows.firstChainsSpec)) Rows.firstChainsCard :=
  Claim7.holds_tied_plain_at .later [] [.data, .data, .data, .sentinel, .sentinel] true (true, "452abb9618eebf26fc9e01cab527c591e73f20c162a4812a8340780f19967501") true
    over (fun _ h => by cases h) (by kernel_rfl) (fun _ h => by cases h) firstChains_row_tie rfl ⟨rfl, rfl⟩ (by kernel_rfl) rfl
    (fun f d g b => by
      obtain rfl : f = 7 := Option.some.inj ((show Tryz.prog.funcNamed "donatus/donatuslaw8.FirstChains" = some 7 by kernel_rfl).symm.trans g) |>.symm
      obtain rfl : d = Tryz.f7 := (Option.some.inj (Tryz.func7.symm.trans b)).symm
      exact⟨by kernel_rfl, fun j t c => by
        rw[Tryz.params7]at c
        have i : t ∈ ([3, 41] : List TypeId) := by simpa using Array.mem_of_getElem? c
        have a : (([3, 41] : List TypeId).all fun u => !Tryz.prog.wantsStandIn u) = true := by kernel_rfl
        exact(show Tryz.prog.wantsStandIn t = false by simpa using List.all_eq_true.1 a t i)⟩)
    (by kernel_rfl)

end Go.Proofs.YtngclmglmhiljaaGreatDoor.Chains
namespace Go.Proofs.YtngclmglmhiljaaGreatDoor
theorem firstChains_holds: Rows.FirstChainsCardSaid := Chains.card
#print axioms firstChains_holds
end Go.Proofs.YtngclmglmhiljaaGreatDoor
