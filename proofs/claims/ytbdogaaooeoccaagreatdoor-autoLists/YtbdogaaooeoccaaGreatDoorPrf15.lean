/- Texts that the proofs of the Auto statements stand on, part Prf15. -/
import Derived.Lib.SliceRun
import Derived.Deep.RegionHeld
import Derived.Shelf.SlLaysF0
import Derived.Shelf.SlLaysZI
import Derived.Shelf.SlLaysM
import Derived.Shelf.SlSortCmp.WholeK
import Derived.Maps.OwnSet
import Derived.Lib.SlKeysI
import Derived.Test.YtbdogaaooeoccaaGreatDoorPrf14
set_option maxHeartbeats 16000000
set_option maxRecDepth 100000
namespace Go.Proofs.YtbdogaaooeoccaaGreatDoor
open Go.RowKit
def rlo (S:Sp) (z:Nat):List Nat:=(List.range S.rs.length).filter (fun i=>match S.rs[i]? with | some r=>decide (r.l=(z:Int)) | none=>false)
theorem qe4{S:Sp}{z i:Nat}:i∈rlo S z↔∃r,S.rs[i]?=some r/\r.l=(z:Int):=by
 unfold rlo;rw[List.mem_filter,List.mem_range]
 constructor
 ·rintro⟨a,b⟩;rw[List.getElem?_eq_getElem a]at b;simp only[decide_eq_true_eq]at b;exact⟨_,List.getElem?_eq_getElem a,b⟩
 ·rintro⟨r,a,b⟩;refine⟨(List.getElem?_eq_some_iff.1 a).1,?_⟩;rw[a];simp only[decide_eq_true_eq];exact b
theorem qpw(S:Sp)(z:Nat):(rlo S z).Nodup:=List.Pairwise.filter _ List.nodup_range
theorem qn6(S:Sp)(z:Nat):(rlo S z).length<=S.rs.length:=by
 have:=List.length_filter_le (fun i=>match S.rs[i]? with | some r=>decide (r.l=(z:Int)) | none=>false) (List.range S.rs.length);rw[List.length_range]at this;exact this
theorem qpx{S:Sp}{L:List It}(h:L.Nodup)(k:∀x∈L,OkI S x)(o:S.rs.length<=40)(l:∀r∈S.rs,r.r.length<=20):L.length<=840:=by
 have d:∀x∈L,x.1<40/\x.2<=20:=fun x g=>by
  obtain⟨r,i,n⟩:=k x g;have:=(List.getElem?_eq_some_iff.1 i).1;have:=l r (List.mem_of_getElem? i);omega
 have:=qb2 840 (L.map fun x=>x.1 * 21+x.2) (by
  unfold List.Nodup at h ⊢;rw[List.pairwise_map];refine List.Pairwise.imp_of_mem (fun {a b} j f c=>?_) h;have:=d a j;have:=d b f
  exact fun e=>c (Prod.ext (by omega) (by omega))) (fun y m=>by
  obtain⟨x,g,rfl⟩:=List.mem_map.1 m;have:=d x g
  omega)
 rw[List.length_map]at this;exact this
structure KerP (S:Sp) (K:List It):Prop where
 so:Sor K
 ok:∀x∈K,OkI S x
 dt:∀x∈K,x=(0,0)\/1<=x.2
theorem qit{S:Sp}(h:0<S.rs.length):KerP S [(0,0)] :=
 ⟨List.pairwise_singleton _ _,fun x a=>by
  rw[List.mem_singleton]at a;subst a
  exact⟨S.rs[0],List.getElem?_eq_getElem h,Nat.zero_le _⟩,fun x a=>.inl (List.mem_singleton.1 a)⟩
theorem qm6{S:Sp}{L:List It}(h:Sor L)(y:Nat):KerP S (nxt S L y) :=
 ⟨qte h y,fun _ a=>qub a,fun x a=>by
  obtain⟨i,d,rfl,-⟩:=qm4.1 a
  exact .inr (Nat.le_add_left _ _)⟩
structure CI (S:Sp) (n:Nat) (K its:List It) (sn:List Bool) (i:Nat):Prop where
 le:i<=its.length
 pre:∀x∈K,x∈its
 inc:∀x∈its,InC S K x
 nod:its.Nodup
 snl:sn.length=n
 dn:∀(j:Nat) (x:It) (z:Nat),j<i->its[j]?=some x->ahd S x=some z->isF sn z=true
 rl:∀(z j:Nat) (r:SR),isF sn z=true->0<j->S.rs[j]?=some r->r.l=(z:Int)->(j,0)∈its
 nu:∀(z j:Nat) (r:SR),(j,0)∈its->0<j->S.rs[j]?=some r->r.l=(z:Int)->isF sn z=true
theorem qiu{l:List It}(h:Sor l):l.Nodup:=h.imp (fun {a b} hab (e:a=b)=>qda b (by rw[e]at hab;exact hab))
theorem qrx{S:Sp}{n:Nat}{K:List It}(h:KerP S K):CI S n K K (List.replicate n false) 0:=by
 have c:∀z,isF (List.replicate n false) z=false:=fun z=>by
  unfold isF;rw[List.getElem?_replicate]
  split <;> rfl
 refine⟨Nat.zero_le _,fun _ h=>h,fun _ h=>InC.mem h,qiu h.so,List.length_replicate,fun j x z a=>by omega,fun z j r b=>?_,fun z j r a d=>?_⟩
 ·rw[c]at b;cases b
 ·rcases h.dt _ a with e | e
  ·injection e with e1 e2;omega
  ·simp at e
theorem CI.skip{S:Sp}{n:Nat}{K a:List It}{c:List Bool}{i:Nat}(h:CI S n K a c i){x:It}(d:a[i]?=some x)(g:∀z,ahd S x=some z->isF c z=true):CI S n K a c (i+1):=by
 refine⟨(List.getElem?_eq_some_iff.1 d).1,h.pre,h.inc,h.nod,h.snl,fun j y z k b f=>?_,h.rl,h.nu⟩
 rcases Nat.lt_or_ge j i with e | e
 ·exact h.dn j y z e b f
 ·have e:j=i:=by omega
  subst e;rw[d]at b
  injection b with b
  subst b;exact g z f
theorem CI.add{S:Sp}{n:Nat}{K f:List It}{v:List Bool}{i:Nat}(h:CI S n K f v i)(G:∀r,S.rs[0]?=some r->r.l=-1){x:It}(D:f[i]?=some x){z:Nat}(F:ahd S x=some z)(L:z<n)(J:isF v z=false):CI S n K (f++(rlo S z).map (fun j=>(j,0))) (v.set z true) (i+1):=by
 have p:z<v.length:=by rw[h.snl];exact L
 have t:∀{j:Nat},j∈rlo S z->0<j/\(j,0) ∉ f:=fun {j} d=>by
  obtain⟨r,k,s⟩:=qe4.1 d
  have u:0<j:=by
   rcases Nat.eq_zero_or_pos j with e | e
   ·subst e;have:=G r k;omega
   ·exact e
  refine⟨u,fun e=>?_⟩;have:=h.nu z j r e u k s;rw[J]at this
  cases this
 have c:∀{y:It},y∈f++(rlo S z).map (fun j=>(j,0))↔y∈f\/∃j,j∈rlo S z/\y=(j,0):=fun {y}=>by
  rw[List.mem_append,List.mem_map]
  constructor
  ·rintro(e | ⟨j,d,rfl⟩)
   ·exact .inl e
   ·exact .inr ⟨j,d,rfl⟩
  ·rintro(e | ⟨j,d,rfl⟩)
   ·exact .inl e
   ·exact .inr ⟨j,d,rfl⟩
 have E:x∈f:=List.mem_of_getElem? D;have C:=(List.getElem?_eq_some_iff.1 D).1;refine⟨?_,fun y m=>c.2 (.inl (h.pre y m)),fun y m=>?_,?_,?_,fun j y q d m g=>?_,fun q j r g d k s=>?_,fun q j r g d k s=>?_⟩
 ·rw[List.length_append];omega
 ·rcases c.1 m with e | ⟨j,d,rfl⟩
  ·exact h.inc y e
  ·obtain⟨r,k,s⟩:=qe4.1 d;exact InC.step x j r z (h.inc x E) F (t d).1 k s
 ·rw[List.nodup_append];refine⟨h.nod,?_,fun a A b H e=>?_⟩
  ·have:=qpw S z;unfold List.Nodup at this ⊢;rw[List.pairwise_map];exact this.imp (fun {a b} B e=>B (by injection e))
  ·obtain⟨j,d,rfl⟩:=List.mem_map.1 H;subst e;exact(t d).2 A
 ·rw[List.length_set];exact h.snl
 ·rcases Nat.lt_or_ge j i with e | e
  ·rw[List.getElem?_append_left (by omega)]at m;exact qat p (h.dn j y q e m g)
  ·have e:j=i:=by omega
   subst e;rw[List.getElem?_append_left C,D]at m
   injection m with m
   subst m;rw[F]at g
   injection g with g
   subst g;rw[ky p,if_pos rfl]
 ·rw[ky p]at g
  by_cases e:q=z
  ·subst e;exact c.2 (.inr ⟨j,qe4.2 ⟨r,k,s⟩,rfl⟩)
  ·rw[if_neg e]at g;exact c.2 (.inl (h.rl q j r g d k s))
 ·rw[ky p]
  by_cases e:q=z
  ·rw[if_pos e]
  ·rw[if_neg e]
   rcases c.1 g with e' | ⟨j',hj',e'⟩
   ·exact h.nu q j r e' d k s
   ·injection e' with e1 e2
    subst e1;obtain⟨M,o,I⟩:=qe4.1 hj';rw[k]at o
    injection o with o
    subst o;omega
theorem CI.done{S:Sp}{n:Nat}{K c:List It}{u:List Bool}(h:CI S n K c u c.length){L:List It}(f:L.Perm c)(s:L.Pairwise (fun x y=>¬ltI y x)):vq S K L:=by
 have p:L.Nodup:=f.nodup_iff.2 h.nod;refine qrv ?_ (fun x g=>h.inc x (f.mem_iff.1 g)) (fun x g=>f.mem_iff.2 (h.pre x g)) (fun y i r z t l m q o=>?_)
 ·have:=List.Pairwise.and s p;exact this.imp (fun {a b} d=>Classical.byContradiction fun e=>d.2 (qtd e d.1))
 ·obtain⟨j,k⟩:=List.mem_iff_getElem?.1 (f.mem_iff.1 t);exact f.mem_iff.2 (h.rl z i r (h.dn j y z (List.getElem?_eq_some_iff.1 k).1 k l) m q o)
theorem CI.ok{S:Sp}{n:Nat}{K a:List It}{d:List Bool}{i:Nat}(h:CI S n K a d i)(b:∀x∈K,OkI S x):∀x∈a,OkI S x:=fun x c=>qpv b (h.inc x c)
theorem u46:Tryz.prog.underlying 46=some (.slice 54):=by kernel_rfl
theorem i54:(Tryz.prog.info? 54).map (fun i=>(i.zero,i.size,i.bytes))=some (some (.agg #[.int .i64 0,.int .i64 0]),2,16):=by kernel_rfl
def itC (l:List It):List Value:=l.flatMap fun x=>[Value.int .i64 (x.1:Int),.int .i64 (x.2:Int)]
theorem qth(l m:List It):itC (l++m)=itC l++itC m:=by unfold itC;rw[List.flatMap_append]
theorem qle(x:It)(l:List It):itC (x :: l)=.int .i64 (x.1:Int) :: .int .i64 (x.2:Int) :: itC l:=rfl
theorem qry(l:List It)(x:It):itC (l++[x])=itC l++[.int .i64 (x.1:Int),.int .i64 (x.2:Int)]:=by rw[qth];rfl
theorem qbx:∀l:List It,(itC l).length=l.length * 2
 | []=>rfl
 | x :: l=>by rw[qle,List.length_cons,List.length_cons,qbx l,List.length_cons];omega
theorem qti(l:List It):∀u∈itC l,u.oneCell'=true:=by
 intro u b;obtain⟨x,-,a⟩:=List.mem_flatMap.1 b;simp only[List.mem_cons,List.not_mem_nil,or_false]at a
 rcases a with rfl | rfl <;> rfl
theorem qg7:∀{l:List It} {i:Nat} {x:It},l[i]?=some x->(itC l)[i * 2]?=some (.int .i64 (x.1:Int))/\(itC l)[i * 2+1]?=some (.int .i64 (x.2:Int))
 | [],i,x,h=>by cases h
 | y :: l,0,x,h=>by cases h;exact⟨rfl,rfl⟩
 | y :: l,i+1,x,h=>by
  have a:(i+1) * 2=i * 2+1+1:=by omega
  have b:(i+1) * 2+1=(i * 2+1)+1+1:=by omega
  rw[b,a,qle,List.getElem?_cons_succ,List.getElem?_cons_succ,List.getElem?_cons_succ,List.getElem?_cons_succ];exact qg7 (by rw[List.getElem?_cons_succ]at h;exact h)
abbrev ItR (w:World) (ao:Option Addr) (n cap:Nat) (l:List It):Prop:=Row w 2 ao n cap (itC l)
theorem yz{w:World}{b:Option Addr}{n a:Nat}{l:List It}(h:ItR w b n a l):l.length=n:=by
 have:=h.len;rw[qbx]at this;omega
theorem qe5{w:World}{d:Option Addr}{n a:Nat}{l:List It}(h:ItR w d n a l){i:Nat}{x:It}(c:l[i]?=some x):∃b o,d=some ⟨b,o,none⟩/\w.cell? ⟨b,o+i * 2,none⟩=some (.int .i64 (x.1:Int))/\w.cell? ⟨b,o+i * 2+1,none⟩=some (.int .i64 (x.2:Int)):=by
 have k:=yz h;have j:=(List.getElem?_eq_some_iff.1 c).1;obtain⟨b,o,g,f⟩:=h.at (by omega);exact⟨b,o,g,f _ _ (qg7 c).1,f _ _ (qg7 c).2⟩
theorem j2{V:World}{B n c:Nat}{a:Option Addr}{l:List It}(h:V.ownsRow B 54 2 (.slice a n c) n (itC l)):ItR V a n c l:=Row.of_own h
theorem qcw(W:World)(l:List It)(t:Option Addr)(n p:Nat)(h:ItR W t n p l)(q:0<n)(v:n<=100000):
  Calls Tryz.prog 31 #[.slice t n p] W fun e f=>∃g c,e=.returned (.slice (some ⟨g,0,none⟩) n c)/\f.ownsRow W.heap.size 54 2 (.slice (some ⟨g,0,none⟩) n c) n (itC l)/\Below W.heap.size W f:=by
 have i:Below W.heap.size W (W.alloc (.cells #[] 54)):=qb _ _;have j:(W.alloc (.cells #[] 54)).heap[W.heap.size]?=some (.cells #[] 54 (0,0)):=heap_alloc_new _ _
 have s:(W.alloc (.cells #[] 54)).ownsRow W.heap.size 54 2 (.slice (some ⟨W.heap.size,0,none⟩) 0 0) 0 []:=⟨rfl,.inr ⟨W.heap.size,0,#[],rfl,Nat.le_refl _,j,Nat.le_refl _,by unfold maxLen;omega,rfl,rfl⟩⟩
 obtain⟨g,c,f,a,d,m,-⟩:=qki u46 i54 rfl (by decide) (by decide) (qti l) s i.size (h.below i) (by omega) q;rw[Nat.zero_add,List.nil_append]at d;rw[Nat.zero_add]at a
 have u:Hid (f.ownsRow W.heap.size 54 2 (.slice (some ⟨g,0,none⟩) n c) n (itC l)/\Below W.heap.size W f):=⟨d,i.trans (m.below i.size (fun k m e=>by cases e;exact absurd m (Nat.lt_irrefl _)))⟩
 obtain⟨b,o,rfl,-⟩:=h.at q;have r:(binOp .eql 46 (.slice (some ⟨b,o,none⟩) n p) (.slice none 0 0)).run Tryz.prog W=.ok (.bool false) W:=Lib.run_eql_slice_nil W 46 54 (some ⟨b,o,none⟩) n p 0 0 u46;clear s d m j i h;go_enter Tryz.func31,Tryz.ntmps31;go_wp2_with(at_builtin;refine Lib.wpList_append_run _ rfl _ _ _ _ rfl _ _ rfl rfl _ _ a ?_)
 go_ret;exact⟨g,c,rfl,u.out⟩
theorem qg8(W:World):Calls Tryz.prog 31 #[.slice none 0 0] W fun e b=>e=.returned (.slice none 0 0)/\b=W:=by
 have a:(binOp .eql 46 (.slice none 0 0) (.slice none 0 0)).run Tryz.prog W=.ok (.bool true) W:=Lib.run_eql_slice_nil W 46 54 none 0 0 0 0 u46;go_enter Tryz.func31,Tryz.ntmps31;go_wp2_with fail;go_ret;exact⟨rfl,rfl⟩
theorem qiv:Tryz.prog.underlying 54=some (.struct (Tryz.prog.fieldsOf 54)):=by kernel_rfl
theorem qm7:Tryz.prog.stoodInHeld 54=false:=by kernel_rfl
theorem qlf:Tryz.prog.eqGuardType Tryz.prog.depth 54=false:=by kernel_rfl
theorem qsb:(Tryz.prog.fieldsOf 54).toList=[ ⟨ "Rule", 3,0,false, "", "", 0⟩,⟨ "Dot", 3,1,false, "", "", 8⟩]:=by kernel_rfl
theorem qn7(a b c d:Int)(W:World):(binOp .neq 54 (.agg #[.int .i64 a,.int .i64 b]) (.agg #[.int .i64 c,.int .i64 d])).run Tryz.prog W=.ok (.bool (!((a == c) && (b == d)))) W:=by
 rw[run_neq_struct,run_equalIn_agg _ _ _ _ _ qiv qm7,qsb];simp[go_sem,Tryz.underlying3]
 by_cases f:a=c
 ·by_cases g:b=d
  ·simp[f,g]
  ·simp[f,g]
 ·simp[f]
theorem qn8(a b c d:Int)(W:World):(binOp .eql 54 (.agg #[.int .i64 a,.int .i64 b]) (.agg #[.int .i64 c,.int .i64 d])).run Tryz.prog W=.ok (.bool ((a == c) && (b == d))) W:=by
 rw[run_eql_struct,run_equalIn_agg _ _ _ _ _ qiv qm7,qsb];simp[go_sem,Tryz.underlying3]
 by_cases f:a=c
 ·by_cases g:b=d
  ·simp[f,g]
  ·simp[f,g]
 ·simp[f]
theorem qpy(x y:It):(((x.1:Int) == (y.1:Int)) && ((x.2:Int) == (y.2:Int)))=decide (x=y):=by
 by_cases h:x=y
 ·subst h;simp
 ·rw[decide_eq_false h]
  cases a:(((x.1:Int) == (y.1:Int)) && ((x.2:Int) == (y.2:Int)))
  ·rfl
  ·rw[Bool.and_eq_true,beq_iff_eq,beq_iff_eq]at a;exact absurd (Prod.ext (Int.ofNat_inj.1 a.1) (Int.ofNat_inj.1 a.2)) h
theorem qn9(l m:List It)(S:Option Addr)(b E:Nat)(T:Option Addr)(o F:Nat)(w:World)(B:ItR w S b E l)(C:ItR w T o F m)(hn:b<=100000)(r:Bool)(X:r=true↔l=m):
  Calls Tryz.prog 46 #[.slice S b E,.slice T o F] w fun e w'=>e=.returned (.bool r)/\Below w.heap.size w w':=by
 have d:=hid2 (yz B).symm (yz C).symm;have G:=hid X;have R:=hid2 B C;have q1:b<=E/\E<=9223372036854775807:=zk B;have q2:o<=F/\F<=9223372036854775807:=zk C;clear X B C
 by_cases c:b=o
 ·have Y:((b:Int) != (o:Int))=false:=by simp[c]
  go_enter Tryz.func46,Tryz.ntmps46;go_wp2
  go_loopg [13] b (fun kx s13 wr=>∃k:Nat,s13=.int .i64 k/\k<=b/\b - k<=kx/\Hid (Below w.heap.size w wr/\∀(i:Nat) (x y:It),i<k->l[i]?=some x->m[i]?=some y->x=y))
  case atStart=>exact⟨0,rfl,Nat.zero_le _,by omega,(⟨Below.refl _ _,fun i x y h=>absurd h (Nat.not_lt_zero _)⟩:Below w.heap.size w _/\∀(i:Nat) (x y:It),i<0->l[i]?=some x->m[i]?=some y->x=y)⟩
  case round =>
   obtain⟨k,rfl,hk,hg,J⟩:=hrel
   by_cases L:k<b
   ·obtain⟨x,p⟩:∃x,l[k]?=some x:=⟨l[k]'(by rw[<-d.out.1];exact L),List.getElem?_eq_getElem _⟩
    obtain⟨y,q⟩:∃y,m[k]?=some y:=⟨m[k]'(by rw[<-d.out.2];omega),List.getElem?_eq_getElem _⟩
    obtain⟨b1,o1,rfl,c1,I⟩:=qe5 (R.out.1.below J.out.1) p;obtain⟨b2,o2,rfl,c2,K⟩:=qe5 (R.out.2.below J.out.1) q;have H:=hid2 p q;clear p q
    have V:k<o:=by omega
    obtain⟨t,s⟩:=x;obtain⟨A,z⟩:=y;simp only at c1 I c2 K
    go_upto_region 6 with fail
    have g1:=zi c1;have g2:=zi c2;have g3:=zi I;have g4:=zi K
    have Z:∀(W:World) (x y:Operand),(eqGuard .neq 54 x y (.agg #[.int .i64 (t:Int),.int .i64 (s:Int)]) (.agg #[.int .i64 (A:Int),.int .i64 (z:Int)])).run Tryz.prog W=.ok () W:=fun W x y=>run_eqGuard_agg W .neq 54 x y _ _ qlf
    have U:∀W:World,(binOp .neq 54 (.agg #[.int .i64 (t:Int),.int .i64 (s:Int)]) (.agg #[.int .i64 (A:Int),.int .i64 (z:Int)])).run Tryz.prog W=.ok (.bool (!decide (((t,s):It)=(A,z)))) W:=fun W=>by rw[qn7,qpy (t,s) (A,z)]
    have Q:Hid (∀n O,Below w.heap.size w (onto wr n O)):=fun n O=>qd J.out.1 (ke wr n O)
    clear c1 c2 I K
    by_cases a:((t,s):It)=(A,z)
    ·have f:Hid (∀(i:Nat) (x y:It),i<k+1->l[i]?=some x->m[i]?=some y->x=y):=fun i u v hi M N=>by
      rcases Nat.lt_or_ge i k with h | h
      ·exact J.out.2 i u v h M N
      ·have:i=k:=by omega
       subst this;rw[H.out.1]at M;rw[H.out.2]at N
       cases M;cases N
       exact a
     simp only[a,decide_true,Bool.not_true]at U;clear a J;refine zn (by kernel_rfl) ?_
     repeat (go_big_quiet_step (fail))
     refine wpQuiet_nil ?_;intro _ j;obtain⟨⟨nq,P⟩,g⟩:=j;subst g;simp only;go_wp2_with fail;go_roundg (b - (k+1))
     case measure=>omega
     case rel=>exact⟨k+1,by simp,by omega,Nat.le_refl _,(⟨Q.out _ _,f.out⟩:Below w.heap.size w _/\∀(i:Nat) (x y:It),i<k+1->l[i]?=some x->m[i]?=some y->x=y)⟩
    ·have f:Hid (r=false):=zj G.out (fun h=>by have D:=H.out;rw[h]at D;rw[D.1]at D;exact a (Option.some.inj D.2))
     simp only[a,decide_false,Bool.not_false]at U;clear a J;refine zn (by kernel_rfl) ?_
     repeat (go_big_quiet_step (fail))
     refine wpQuiet_nil ?_;intro _ j;obtain⟨⟨nq,P⟩,g⟩:=j;subst g;simp only;go_wp2_with fail;go_ret;exact⟨by rw[f.out];rfl,Q.out _ _⟩
   ·have f:Hid (r=true):=xh G.out (qbq (by rw[<-d.out.1,<-d.out.2];exact c) (fun i x y p q=>J.out.2 i x y (by have:=(List.getElem?_eq_some_iff.1 p).1;rw[<-d.out.1]at this;omega) p q))
    go_wp2;go_ret;exact⟨by rw[f.out];rfl,J.out.1⟩
 ·have Y:((b:Int) != (o:Int))=true:=by simp;omega
  have f:=hid (zj G.out (fun h=>c (by rw[d.out.1,d.out.2,h])));clear c;go_enter Tryz.func46,Tryz.ntmps46;go_wp2;go_ret;exact⟨by rw[f.out];rfl,Below.refl _ _⟩
structure GA (W:World) (B gb rb:Nat) (vs:List (Option Addr × Nat)) (h:SHd) (S:Sp) (n:Nat) (wt:List (List Nat)):Prop where
 box:W.heap[gb]?=some (.cells (sC h S++#[.slice (some ⟨rb,0,none⟩) n n]) 94 (0,0))
 new:B<=gb
 len:wt.length=n
 grd:Grd W B rb vs wt
 isp:IsSp W h S
theorem GA.below{W a:World}{B b c:Nat}{d:List (Option Addr × Nat)}{h:SHd}{S:Sp}{n:Nat}{f:List (List Nat)}(g:GA W B b c d h S n f)(k:Below W.heap.size W a):GA a B b c d h S n f :=
 ⟨qf k g.box,g.new,g.len,g.grd.below k,g.isp.below k⟩
theorem GA.cells{W:World}{B a b:Nat}{c:List (Option Addr × Nat)}{h:SHd}{S:Sp}{n:Nat}{d:List (List Nat)}(g:GA W B a b c h S n d):W.cell? ⟨a,0,none⟩=some (.int .i64 (S.tk:Int))/\W.cell? ⟨a,7,none⟩=some (.slice h.ra S.rs.length h.rc)/\W.cell? ⟨a,8,none⟩=some (.slice (some ⟨b,0,none⟩) n n):=by
 refine⟨?_,?_,?_⟩ <;> (rw[qe g.box];rfl)
structure GQ (W:World) (gb rb:Nat) (h:SHd) (S:Sp) (n:Nat):Prop where
 c0:W.cell? ⟨gb,0,none⟩=some (.int .i64 (S.tk:Int))
 c7:W.cell? ⟨gb,7,none⟩=some (.slice h.ra S.rs.length h.rc)
 c8:W.cell? ⟨gb,8,none⟩=some (.slice (some ⟨rb,0,none⟩) n n)
 isp:IsSp W h S
theorem GA.q{W:World}{B a b:Nat}{c:List (Option Addr × Nat)}{h:SHd}{S:Sp}{n:Nat}{d:List (List Nat)}(g:GA W B a b c h S n d):GQ W a b h S n:=⟨g.cells.1,g.cells.2.1,g.cells.2.2,g.isp⟩
theorem GQ.below{W a:World}{b c:Nat}{h:SHd}{S:Sp}{n:Nat}(g:GQ W b c h S n)(k:Below W.heap.size W a):GQ a b c h S n :=
 ⟨qt k g.c0,qt k g.c7,qt k g.c8,g.isp.below k⟩
theorem qg9(W:World)(b f n:Nat)(_:n<=1000)(x:Int)(g:W.cell? ⟨b,8,none⟩=some (.slice (some ⟨f,0,none⟩) n n)):
  Calls Tryz.prog 69 #[.pointer (some ⟨b,0,none⟩),.int .i64 x] W fun e d=>e=.returned (.bool (decide (0<=x) && decide (x<(n:Int))))/\d=W:=by
 by_cases c:0<=x
 ·have a:decide (0<=x)=true:=decide_eq_true c;go_enter Tryz.func69,Tryz.ntmps69;go_wp2_with fail;go_ret;exact⟨by first | rfl | (rw[a];rfl),rfl⟩
 ·have a:decide (0<=x)=false:=decide_eq_false c;go_enter Tryz.func69,Tryz.ntmps69;go_wp2_with fail;go_ret;exact⟨by first | rfl | (rw[a];rfl),rfl⟩
theorem qoa(W:World)(b h n a:Nat)(j:n<=1000)(x:Int)(c0:W.cell? ⟨b,0,none⟩=some (.int .i64 (a:Int)))(i:W.cell? ⟨b,8,none⟩=some (.slice (some ⟨h,0,none⟩) n n)):
  Calls Tryz.prog 45 #[.pointer (some ⟨b,0,none⟩),.int .i64 x] W fun e f=>e=.returned (.bool (decide ((a:Int)<=x) && (decide (0<=x) && decide (x<(n:Int)))))/\f=W:=by
 have d:=hid (qg9 W b h n j x i)
 by_cases g:(a:Int)<=x
 ·have c:decide ((a:Int)<=x)=true:=decide_eq_true g;generalize (decide (0<=x) && decide (x<(n:Int)))=r at d ⊢;go_enter Tryz.func45,Tryz.ntmps45;go_wp2_with fail;refine d.out.mono ?_;rintro e f ⟨rfl,rfl⟩;go_wp2_with fail;go_ret;exact⟨by first | rfl | (rw[c];rfl),rfl⟩
 ·have c:decide ((a:Int)<=x)=false:=decide_eq_false g;go_enter Tryz.func45,Tryz.ntmps45;go_wp2_with fail;go_ret;exact⟨by first | rfl | (rw[c];rfl),rfl⟩
def ahI (S:Sp) (x:It):Int:=match ahd S x with | some z=>(z:Int) | none=>-1
theorem qf6{S:Sp}{x:It}{z:Nat}(h:ahd S x=some z):ahI S x=(z:Int):=by unfold ahI;rw[h]
theorem qf7{S:Sp}{x:It}(h:ahd S x=none):ahI S x=-1:=by unfold ahI;rw[h]
theorem qfl(W:World)(K V:Nat)(h:SHd)(S:Sp)(n:Nat)(z:NSp S n)(g:GQ W K V h S n)(x:It)(hx:OkI S x):
  Calls Tryz.prog 48 #[.pointer (some ⟨K,0,none⟩),.agg #[.int .i64 (x.1:Int),.int .i64 (x.2:Int)]] W fun e H=>e=.returned (.int .i64 (ahI S x))/\Below W.heap.size W H:=by
 obtain⟨a,d⟩:=x;obtain⟨r,L,hd⟩:=hx;simp only at L hd ⊢;have F:=hid L;have a0:=(List.getElem?_eq_some_iff.1 L).1;have a3:=z.nr;have a4:r.r.length<=20:=z.ln r (List.mem_of_getElem? L)
 have a2:n<=301:=by have:=z.nn;have:=z.wf.tk;have:=z.wf.nt;omega
 have j:Below W.heap.size W (W.alloc (.cells #[.int .i64 (a:Int),.int .i64 (d:Int)] 54)):=qb _ _;have f:(W.alloc (.cells #[.int .i64 (a:Int),.int .i64 (d:Int)] 54)).heap[W.heap.size]?=some (.cells #[.int .i64 (a:Int),.int .i64 (d:Int)] 54 (0,0)):=heap_alloc_new _ _;have A:=hid (g.below j);have q:=vn g.isp.rl;have Y:=hid2 z hd;clear g;have a1:decide ((a:Int) ≥ (S.rs.length:Int))=false:=decide_eq_false (by omega);go_enter Tryz.func48,Tryz.ntmps48
 go_upto_region 1 with fail
 generalize W.alloc (.cells #[.int .i64 (a:Int),.int .i64 (d:Int)] 54)=v at j f A ⊢;generalize W.heap.size=X at f ⊢
 have R:v.cell? ⟨X,0,none⟩=some (.int .i64 (a:Int)):=by rw[qe f];rfl
 have N:v.cell? ⟨X,1,none⟩=some (.int .i64 (d:Int)):=by rw[qe f];rfl
 obtain⟨a6,ro,xa,xc,Q,-,U,-,-,c⟩:=A.out.isp.rl.at F.out;have qx:=zk c;have G:=hid3 j c A.out;have O:=A.out.c7;have e0:=zi R;have J:=zi O;clear j f A c;refine zn (by kernel_rfl) ?_
 repeat (go_big_quiet_step (fail))
 refine wpQuiet_nil ?_;intro _ o;obtain⟨⟨nq,b⟩,m⟩:=o;subst m;simp only;have B:=hid (ke v nq b);have p:=zi R nq b;have s:=zi N nq b;have k:=zi O nq b;have u:=zi U nq b;clear e0 J R N O U;generalize onto v nq b=T at B p s k u ⊢
 go_upto_region 3 with fail
 have e0:=zi p;have J:=zi k;have er:=zi u;rw[Q]at J;refine zn (by kernel_rfl) ?_
 repeat (go_big_quiet_step (fail))
 refine wpQuiet_nil ?_;intro _ o;obtain⟨⟨t,i⟩,m⟩:=o;subst m;simp only;have N:=zi s t i;have C:=hid (ke T t i);clear e0 J er p s k u;generalize onto T t i=I at N C ⊢;have E:Hid (Below v.heap.size v I):=qd B.out C.out
 by_cases P:d<r.r.length
 ·have M:r.r[d]?=some r.r[d]:=List.getElem?_eq_getElem P;generalize r.r[d]=y at M
  have l:ahd S (a,d)=some y:=by unfold ahd;simp only;rw[F.out];exact M
  have a5:=(Y.out.1.sy r (List.mem_of_getElem? F.out) y (List.mem_of_getElem? M)).1;obtain⟨yb,yo,rfl,cy⟩:=yd (G.out.2.1.below E.out) M;have D:decide ((d:Int) ≥ (r.r.length:Int))=false:=decide_eq_false (by omega)
  have Z:Hid (Calls Tryz.prog 69 #[.pointer (some ⟨K,0,none⟩),.int .i64 (y:Int)] I fun e H=>e=.returned (.bool true)/\H=I):=by
   have:=qg9 I K V n (by omega) (y:Int) (G.out.2.2.below E.out).c8
   have e1:(decide (0<=(y:Int)) && decide ((y:Int)<(n:Int)))=true:=by rw[Bool.and_eq_true];exact⟨decide_eq_true (by omega),decide_eq_true (by omega)⟩
   rw[e1]at this;exact this
  go_wp2_with fail;refine Z.out.mono ?_;rintro e H ⟨rfl,rfl⟩;go_wp2_with fail;go_ret;exact⟨by rw[qf6 l];rfl,qd G.out.1 E.out⟩
 ·have l:ahd S (a,d)=none:=by unfold ahd;simp only;rw[F.out];exact List.getElem?_eq_none (by omega)
  have D:decide ((d:Int) ≥ (r.r.length:Int))=true:=decide_eq_true (by omega);go_wp2_with fail;go_ret;exact⟨by rw[qf7 l];rfl,qd G.out.1 E.out⟩
def rlk (S:Sp) (i z:Nat):List Nat:=(List.range i).filter (fun i=>match S.rs[i]? with | some r=>decide (r.l=(z:Int)) | none=>false)
theorem qhz(S:Sp)(z:Nat):rlk S S.rs.length z=rlo S z:=rfl
theorem qlg{S:Sp}{i z:Nat}{r:SR}(h:S.rs[i]?=some r):rlk S (i+1) z=rlk S i z++(if r.l=(z:Int) then [i] else []):=by
 unfold rlk;rw[List.range_succ,List.filter_append]
 congr 1
 by_cases e:r.l=(z:Int)
 ·rw[if_pos e,List.filter_cons_of_pos (by rw[h];simpa using e)];rfl
 ·rw[if_neg e,List.filter_cons_of_neg (by rw[h];simpa using e)];rfl
theorem qob(S:Sp)(i z:Nat):(rlk S i z).length<=i:=by
 have:=List.length_filter_le (fun i=>match S.rs[i]? with | some r=>decide (r.l=(z:Int)) | none=>false) (List.range i);rw[List.length_range]at this;exact this
def rwt (S:Sp) (n i:Nat):List (List Nat):=(List.range n).map (rlk S i)
theorem qar{S:Sp}{n i x:Nat}(h:x<n):(rwt S n i)[x]?=some (rlk S i x):=by
 unfold rwt;rw[List.getElem?_map,List.getElem?_range h];rfl
theorem yq(S:Sp)(n i:Nat):(rwt S n i).length=n:=by unfold rwt;simp
theorem qrz(S:Sp)(n:Nat):rwt S n 0=List.replicate n []:=by
 apply List.ext_getElem?
 intro x
 rcases Nat.lt_or_ge x n with h | h
 ·rw[qar h,List.getElem?_replicate,if_pos h];rfl
 ·rw[List.getElem?_eq_none (by rw[yq];exact h),List.getElem?_eq_none (by simpa using h)]
theorem qr0{S:Sp}{n i:Nat}{r:SR}(h:S.rs[i]?=some r)(a:r.l=-1):rwt S n (i+1)=rwt S n i:=by
 unfold rwt
 refine List.map_congr_left fun z _=>?_
 rw[qlg h,if_neg (by omega),List.append_nil]
theorem qtj{S:Sp}{n i x:Nat}{r:SR}(h:S.rs[i]?=some r)(a:r.l=(x:Int))(b:x<n):rwt S n (i+1)=(rwt S n i).set x (rlk S i x++[i]):=by
 apply List.ext_getElem?
 intro z
 rcases Nat.lt_or_ge z n with hz | hz
 ·rw[qar hz,List.getElem?_set,qar hz,yq,qlg h]
  by_cases e:x=z
  ·subst e;rw[if_pos rfl,if_pos a,if_pos b]
  ·rw[if_neg e,if_neg (by omega),List.append_nil]
 ·rw[List.getElem?_eq_none (by rw[yq];exact hz),List.getElem?_eq_none (by rw[List.length_set,yq];exact hz)]
theorem qpz(w:World)(h:SHd)(S:Sp)(n:Nat)(Y:NSp S n)(P:IsSp w h S):
  Calls Tryz.prog 33 #[sv h S] w fun e z=>∃p f y,e=.returned (.pointer (some ⟨p,0,none⟩))/\GA z w.heap.size p f y h S n (rwt S n S.rs.length)/\Below w.heap.size w z:=by
 have hn:n<=301:=by have:=Y.nn;have:=Y.wf.tk;have:=Y.wf.nt;omega
 have c9:=Y.nr;have a4:Below w.heap.size w (w.alloc (.cells (sC h S) 31)):=qb _ _;have H:(w.alloc (.cells (sC h S) 31)).heap[w.heap.size]?=some (.cells (sC h S) 31 (0,0)):=heap_alloc_new _ _;have HX:=hid2 Y P
 have a0:Hid (∀V:World,Below w.heap.size w V->Calls Tryz.prog 44 #[.agg #[.int .i64 (S.tk:Int),.int .i64 (S.nt:Int),.int .i64 (S.st:Int),.int .i64 S.ex,.slice h.na S.nm.length h.nc,.slice h.la S.lv.length h.lc,.slice h.aa S.az.length h.ac,.slice h.ra S.rs.length h.rc]] V fun e z=>BRes V z n (Rch S) e):=fun V hV=>qd3 V h S n Y.nn Y.wf (P.below hV)
 have qr:=vn P.rl;clear Y P;unfold sv;have e1:sC h S=#[.int .i64 (S.tk:Int),.int .i64 (S.nt:Int),.int .i64 (S.st:Int),.int .i64 S.ex,.slice h.na S.nm.length h.nc,.slice h.la S.lv.length h.lc,.slice h.aa S.az.length h.ac,.slice h.ra S.rs.length h.rc]:=rfl;rw[e1];go_enter Tryz.func33,Tryz.ntmps33
 go_upto_region 1 with fail
 rw[<-e1];clear e1;generalize w.alloc (.cells (sC h S) 31)=R at a4 H ⊢
 obtain⟨t,a7⟩:∃t,Hid (t=w.heap.size):=⟨_,rfl⟩
 rw[<-a7.out]at H ⊢
 have E:Hid (∀V,Below R.heap.size R V->V.cell? ⟨t,0,none⟩=some (.int .i64 (S.tk:Int))/\V.cell? ⟨t,1,none⟩=some (.int .i64 (S.nt:Int))/\V.cell? ⟨t,2,none⟩=some (.int .i64 (S.st:Int))/\V.cell? ⟨t,3,none⟩=some (.int .i64 S.ex)/\V.cell? ⟨t,4,none⟩=some (.slice h.na S.nm.length h.nc)/\V.cell? ⟨t,5,none⟩=some (.slice h.la S.lv.length h.lc)/\V.cell? ⟨t,6,none⟩=some (.slice h.aa S.az.length h.ac)/\V.cell? ⟨t,7,none⟩=some (.slice h.ra S.rs.length h.rc)):=fun V hV=>sbox (qf hV H)
 have u:Hid (Below w.heap.size w R/\R.heap[t]?=some (.cells (sC h S) 31 (0,0))/\w.heap.size<=t):=⟨a4,H,by rw[a7.out];exact Nat.le_refl _⟩
 clear a4 H
 go_cut [3] (fun s3 wd=>∃p:Nat,s3=.pointer (some ⟨p,0,none⟩)/\Hid (Below w.heap.size w wd/\wd.heap[t]?=some (.cells (sC h S) 31 (0,0))/\t≠p/\∃f y,GA wd w.heap.size p f y h S n (rwt S n 0)))
 case first =>
  go_region_held (fun z=>z.cell? ⟨t,0,none⟩=some (.int .i64 (S.tk:Int))/\z.cell? ⟨t,1,none⟩=some (.int .i64 (S.nt:Int))/\z.cell? ⟨t,2,none⟩=some (.int .i64 (S.st:Int))/\z.cell? ⟨t,3,none⟩=some (.int .i64 S.ex)/\z.cell? ⟨t,4,none⟩=some (.slice h.na S.nm.length h.nc)/\z.cell? ⟨t,5,none⟩=some (.slice h.la S.lv.length h.lc)/\z.cell? ⟨t,6,none⟩=some (.slice h.aa S.az.length h.ac)/\z.cell? ⟨t,7,none⟩=some (.slice h.ra S.rs.length h.rc)) (first | exact E.out _ (qo _) | exact E.out _ Z.out | exact E.out _ D.out | exact E.out _ (qd D.out (qb _ _))) (first
   | (go_at_call 44;refine(a0.out _ (qd u.out.1 (qo _))).mono ?_;clear a0;rintro e VA ⟨fy,dy,rfl,-,-,-,b9⟩;have Z:Hid (Below R.heap.size R VA):=qd (qo _) b9;obtain⟨VM,d6,c4,c3⟩:=qco VA w.heap.size n (by omega) (qd u.out.1 Z.out).size;have D:Hid (Below R.heap.size R VM):=qd Z.out c3))
  all_goals
   go_wp2_with fail;go_meet;have a9:Below VM.heap.size VM (VM.alloc (.cells (sC h S++#[.slice (some ⟨VA.heap.size,0,none⟩) n n]) 94)):=qb _ _;have a6:=qd D.out a9;refine⟨_,rfl,qd u.out.1 a6,qf a6 u.out.2.1,?_,VA.heap.size,List.replicate n (none,0),⟨heap_alloc_new _ _,(qd u.out.1 D.out).size,yq _ _ _,?_,HX.out.2.below (qd u.out.1 a6)⟩⟩
   ·intro e;have h1:=(Array.getElem?_eq_some_iff.1 (qf D.out u.out.2.1)).1;omega
   ·rw[qrz];exact c4.below a9
 case rest =>
  obtain⟨w1,d9⟩:∃w1,w1=wc:=⟨_,rfl⟩
  subst wc;obtain⟨p,rfl,J0⟩:=hcut;obtain⟨-,-,-,-,-,-,-,c7⟩:=sbox J0.out.2.1
  obtain⟨I,a1⟩:∃I,Hid (S.rs.length=I):=⟨_,rfl⟩
  rw[a1.out]at qr c9 c7;obtain⟨b0,o0,-,-,G,-⟩:=HX.out.2.rl.at HX.out.1.wf.hd;rw[G]at c7;have b8:=hid G;clear G;clear E a0 u;have HJ:Hid (∃f y,GA w1 w.heap.size p f y h S n (rwt S n 0)):=J0.out.2.2.2;have a8:=hid J0.out.1;clear J0;go_wp2_with fail;clear c7
  go_loopg [16] I (fun kx s16 wr=>∃k:Nat,s16=.int .i64 k/\k<=I/\I - k<=kx/\Hid (Below w.heap.size w wr/\∃f y,GA wr w.heap.size p f y h S n (rwt S n k)))
  case atStart=>exact⟨0,rfl,Nat.zero_le _,by omega,(⟨a8.out,HJ.out⟩:Below w.heap.size w w1/\∃f y,GA w1 w.heap.size p f y h S n (rwt S n 0))⟩
  case round =>
   clear HJ a8;obtain⟨k,rfl,hk,hg,J⟩:=hrel
   by_cases c6:k<I
   ·have b3:(k:Int)<(I:Int):=by omega
    obtain⟨hb,f,y,C⟩:=J.out
    obtain⟨r,hr⟩:∃r,S.rs[k]?=some r:=⟨S.rs[k]'(by rw[a1.out];exact c6),List.getElem?_eq_getElem _⟩
    obtain⟨b2,o2,xa,xc,O,r0,r1,r2,r3,b6⟩:=C.isp.rl.at hr;rw[b8.out]at O
    injection O with O
    injection O with hr1 hr2
    subst hr1 hr2;obtain⟨c0,-,T⟩:=C.cells;have hv:Below wr.heap.size wr (wr.alloc (.cells #[.int .i64 r.l,.slice xa r.r.length xc,.int .i64 r.lv,.int .i64 r.a] 56)):=qb _ _;have hx:(wr.alloc (.cells #[.int .i64 r.l,.slice xa r.r.length xc,.int .i64 r.lv,.int .i64 r.a] 56)).heap[wr.heap.size]?=some (.cells #[.int .i64 r.l,.slice xa r.r.length xc,.int .i64 r.lv,.int .i64 r.a] 56 (0,0)):=heap_alloc_new _ _;have H1:=hid3 (qd hb hv) (C.below hv) hx;have HR:=hid hr;clear hb C hv hx b6 hr J
    go_upto_region 5 with fail
    clear r0 r1 r2 r3 c0 T;generalize d7:wr.heap.size=L at H1 ⊢;generalize wr.alloc (.cells #[.int .i64 r.l,.slice xa r.r.length xc,.int .i64 r.lv,.int .i64 r.a] 56)=F at H1 ⊢;obtain⟨c0,-,T⟩:=H1.out.2.1.cells
    have cs:F.cell? ⟨L,0,none⟩=some (.int .i64 r.l):=by rw[qe H1.out.2.2];rfl
    have HO:=hid (qoa F p f n S.tk (by omega) r.l c0 T);clear c0
    rcases Nat.eq_zero_or_pos k with hk0 | hk0
    ·have b5:r.l=-1:=by
      have h1:=HR.out;rw[hk0,HX.out.1.wf.hd]at h1
      injection h1 with h1
      rw[<-h1]
     have eb:(decide ((S.tk:Int)<=r.l) && (decide (0<=r.l) && decide (r.l<(n:Int))))=false:=by
      rw[decide_eq_false (by omega)];rfl
     rw[eb]at HO
     have HF:Hid (Below w.heap.size w F/\∃f y,GA F w.heap.size p f y h S n (rwt S n (k+1))):=⟨H1.out.1,f,y,by rw[qr0 HR.out b5];exact H1.out.2.1⟩
     clear b5 eb hk0;go_wp2_with fail;refine HO.out.mono ?_;rintro e V2 ⟨rfl,rfl⟩;go_wp2_with fail;go_roundg (I - (k+1))
     case measure=>omega
     case rel=>exact⟨k+1,by simp,by omega,Nat.le_refl _,HF⟩
    ·obtain⟨x,b7,f2,f3⟩:=HX.out.1.wf.rl k r hk0 HR.out
     have Q:x<n:=by have:=HX.out.1.nn;omega
     have eb:(decide ((S.tk:Int)<=r.l) && (decide (0<=r.l) && decide (r.l<(n:Int))))=true:=by
      rw[decide_eq_true (by omega),decide_eq_true (by omega),decide_eq_true (by omega)];rfl
     rw[eb]at HO;rw[b7]at HO cs ⊢;have hD:=H1.out.2.1.grd.below (qo F);have d4:=qob S k x;obtain⟨q,hq,c1,-⟩:=H1.out.2.1.grd.at (qar (S:=S) (i:=k) Q);obtain⟨g,c,M,X,d2,f1,kk,hG,s,-⟩:=hD.add (i:=k) (by exact H1.out.1.size) (qar (S:=S) (i:=k) Q) hq (by omega);rw[<-qtj HR.out b7 Q]at hG
     have a5:Below w.heap.size w (M.setCell ⟨f,x,none⟩ (.slice (some ⟨g,0,none⟩) ((rlk S k x).length+1) c)):=by
      refine(qd H1.out.1 (qo F)).trans (s.below (qd H1.out.1 (qo F)).size (fun j hj e=>?_))
      rcases e with e | e
      ·have:=hD.loc.1;omega
      ·have:=(hD.lt ⟨x,q,hq,e⟩).1;omega
     have N:¬(p=f\/blk q.1=some p):=by
      rintro(e | e)
      ·exact qu ⟨_,H1.out.2.1.box⟩ H1.out.2.1.grd.loc.2.2 (by decide) e
      ·exact qu ⟨_,H1.out.2.1.box⟩ (H1.out.2.1.grd.lt ⟨x,q,hq,e⟩).2.2 (by decide) rfl
     have b4:¬blk q.1=some L:=fun e=>qu ⟨_,H1.out.2.2⟩ (H1.out.2.1.grd.lt ⟨x,q,hq,e⟩).2.2 (by decide) rfl
     have U:L≠f:=qu ⟨_,H1.out.2.2⟩ H1.out.2.1.grd.loc.2.2 (by decide);have gd:M.heap[p]?=F.heap[p]?:=kk.block p (Array.getElem?_eq_some_iff.1 H1.out.2.1.box).1 (fun e=>N (.inr e));have sd:M.heap[L]?=F.heap[L]?:=kk.block L (Array.getElem?_eq_some_iff.1 H1.out.2.2).1 b4
     have d8:M.cell? ⟨p,8,none⟩=some (.slice (some ⟨f,0,none⟩) n n):=by unfold World.cell? at T ⊢;rw[gd];exact T
     have ds:M.cell? ⟨L,0,none⟩=some (.int .i64 (x:Int)):=by unfold World.cell? at cs ⊢;rw[sd];exact cs
     have s8:(M.setCell ⟨f,x,none⟩ (.slice (some ⟨g,0,none⟩) ((rlk S k x).length+1) c)).cell? ⟨p,8,none⟩=some (.slice (some ⟨f,0,none⟩) n n):=zg d8 (fun e=>N (.inl e));have ss:(M.setCell ⟨f,x,none⟩ (.slice (some ⟨g,0,none⟩) ((rlk S k x).length+1) c)).cell? ⟨L,0,none⟩=some (.int .i64 (x:Int)):=zg ds U
     have HF:Hid (Below w.heap.size w (M.setCell ⟨f,x,none⟩ (.slice (some ⟨g,0,none⟩) ((rlk S k x).length+1) c))/\∃d1 d3,GA (M.setCell ⟨f,x,none⟩ (.slice (some ⟨g,0,none⟩) ((rlk S k x).length+1) c)) w.heap.size p d1 d3 h S n (rwt S n (k+1))):=by
      refine⟨a5,f,_,⟨?_,H1.out.2.1.new,yq _ _ _,hG,HX.out.2.below a5⟩⟩;rw[Below.heap_setCell _ _ _ _ (fun e=>N (.inl e)),gd];exact H1.out.2.1.box
     have A:(Builtin.append_ #[28,28] 28 #[.slice q.1 (rlk S k x).length q.2,.slice (some ⟨F.heap.size,0,none⟩) 1 1]).run Tryz.prog (F.alloc (.cells #[.int .i64 (k:Int)] 3)).drew=.ok (.slice (some ⟨g,0,none⟩) ((rlk S k x).length+1) c) M:=X;have d0:=zq (H1.out.2.1.grd.row x q _ hq (qar (S:=S) (i:=k) Q));obtain⟨qa,qc⟩:=q;simp only at A c1 d2 d0;clear hD hG s X kk hq a5 N b4 U gd sd H1
     have f0:(x:Int)<(n:Int):=by omega
     generalize (rlk S k x).length=lx at *
     have a2:=qp T (.cells #[.int .i64 (k:Int)] 3);have d5:=qp c1 (.cells #[.int .i64 (k:Int)] 3);have a3:=qp cs (.cells #[.int .i64 (k:Int)] 3);go_wp2_with fail;refine HO.out.mono ?_;rintro e V2 ⟨rfl,rfl⟩
     go_upto_region 6 with fail
     refine wp_region_held_drew (S:=fun z=>z.cell? ⟨p,8,none⟩=some (.slice (some ⟨f,0,none⟩) n n)/\z.cell? ⟨L,0,none⟩=some (.int .i64 (x:Int))) (by kernel_rfl) ⟨T,cs⟩ (fun b=>?_);refine wpAnyH_take (i:=0) (v:=.pointer (some ⟨p,0,none⟩)) rfl (by kernel_rfl) (by kernel_rfl) (by kernel_rfl) (fun _ _ _ h=>h) (Or.inl ⟨by rfl,fun B d=>?_⟩) b ?_
     ·(obtain⟨m,o⟩:=d;go_simp)
     simp only[Act.put];refine wpAnyH_take (i:=1) (v:=.pointer (some ⟨p,0,none⟩)) rfl (by kernel_rfl) (by kernel_rfl) (by kernel_rfl) (fun _ _ _ h=>h) (Or.inl ⟨by rfl,fun B d=>?_⟩) b ?_
     ·(obtain⟨m,o⟩:=d;go_simp)
     simp only[Act.put];refine wpAnyH_take (i:=2) (v:=.pointer (some ⟨p,8,none⟩)) rfl (by kernel_rfl) (by kernel_rfl) (by kernel_rfl) (fun _ _ _ h=>h) (Or.inl ⟨by rfl,fun B d=>?_⟩) b ?_
     ·(obtain⟨m,o⟩:=d;go_simp)
     simp only[Act.put];refine wpAnyH_take (i:=3) (v:=(.slice (some ⟨f,0,none⟩) n n)) rfl (by kernel_rfl) (by kernel_rfl) (by kernel_rfl) (fun _ _ _ h=>h) (Or.inl ⟨by rfl,fun B d=>?_⟩) b ?_
     ·(obtain⟨m,o⟩:=d;go_simp)
     simp only[Act.put];refine wpAnyH_take (i:=4) (v:=.pointer (some ⟨L,0,none⟩)) rfl (by kernel_rfl) (by kernel_rfl) (by kernel_rfl) (fun _ _ _ h=>h) (Or.inl ⟨by rfl,fun B d=>?_⟩) b ?_
     ·(obtain⟨m,o⟩:=d;go_simp)
     simp only[Act.put];refine wpAnyH_take (i:=5) (v:=.int .i64 (x:Int)) rfl (by kernel_rfl) (by kernel_rfl) (by kernel_rfl) (fun _ _ _ h=>h) (Or.inl ⟨by rfl,fun B d=>?_⟩) b ?_
     ·(obtain⟨m,o⟩:=d;go_simp)
     simp only[Act.put];refine wpAnyH_take (i:=6) (v:=.pointer (some ⟨p,0,none⟩)) rfl (by kernel_rfl) (by kernel_rfl) (by kernel_rfl) (fun _ _ _ h=>h) (Or.inl ⟨by rfl,fun B d=>?_⟩) b ?_
     ·(obtain⟨m,o⟩:=d;go_simp)
     simp only[Act.put];refine wpAnyH_take (i:=7) (v:=.pointer (some ⟨p,0,none⟩)) rfl (by kernel_rfl) (by kernel_rfl) (by kernel_rfl) (fun _ _ _ h=>h) (Or.inl ⟨by rfl,fun B d=>?_⟩) b ?_
     ·(obtain⟨m,o⟩:=d;go_simp)
     simp only[Act.put];refine wpAnyH_take (i:=8) (v:=.pointer (some ⟨p,8,none⟩)) rfl (by kernel_rfl) (by kernel_rfl) (by kernel_rfl) (fun _ _ _ h=>h) (Or.inl ⟨by rfl,fun B d=>?_⟩) b ?_
     ·(obtain⟨m,o⟩:=d;go_simp)
     simp only[Act.put];refine wpAnyH_take (i:=9) (v:=(.slice (some ⟨f,0,none⟩) n n)) rfl (by kernel_rfl) (by kernel_rfl) (by kernel_rfl) (fun _ _ _ h=>h) (Or.inl ⟨by rfl,fun B d=>?_⟩) b ?_
     ·(obtain⟨m,o⟩:=d;go_simp)
     simp only[Act.put];refine wpAnyH_take (i:=10) (v:=.pointer (some ⟨L,0,none⟩)) rfl (by kernel_rfl) (by kernel_rfl) (by kernel_rfl) (fun _ _ _ h=>h) (Or.inl ⟨by rfl,fun B d=>?_⟩) b ?_
     ·(obtain⟨m,o⟩:=d;go_simp)
     simp only[Act.put];refine wpAnyH_take (i:=11) (v:=.int .i64 (x:Int)) rfl (by kernel_rfl) (by kernel_rfl) (by kernel_rfl) (fun _ _ _ h=>h) (Or.inl ⟨by rfl,fun B d=>?_⟩) b ?_
     ·(obtain⟨m,o⟩:=d;go_simp)
     simp only[Act.put];refine wpAnyH_take (i:=12) (v:=.pointer (some ⟨f,x,none⟩)) rfl (by kernel_rfl) (by kernel_rfl) (by kernel_rfl) (fun _ _ _ h=>h) (Or.inl ⟨by rfl,fun B d=>?_⟩) b ?_
     ·(obtain⟨m,o⟩:=d;go_simp)
     simp only[Act.put];refine wpAnyH_take (i:=14) (v:=.int .i64 (k:Int)) rfl (by kernel_rfl) (by kernel_rfl) (by kernel_rfl) (fun _ _ _ h=>h) (Or.inl ⟨by rfl,fun B d=>?_⟩) b ?_
     ·(obtain⟨m,o⟩:=d;go_simp)
     simp only[Act.put];refine wpAnyH_ready (rs:=[13,15]) (by kernel_rfl) (by simp) ?_;refine AllReadyH.cons rfl (fun K s=>?_) (AllReadyH.cons rfl (fun K s=>?_) AllReadyH.nil)
     ·go_simp
      refine s.out _ _ ⟨T,cs⟩ (fun b=>?_);clear s K;refine wpAnyH_ready (rs:=[15]) (by kernel_rfl) (by simp) ?_;refine AllReadyH.cons rfl (fun K s=>?_) AllReadyH.nil
      go_simp
      refine s.out _ _ ⟨a2,a3⟩ (fun b=>?_);clear s K;refine wpAnyH_ready (rs:=[16]) (by kernel_rfl) (by simp) ?_;refine AllReadyH.cons rfl (fun K s=>?_) AllReadyH.nil;refine zb rfl (.tmp 38) (.tmp 40) rfl rfl (by simp[Act.eval]) (by simp[Act.eval]) A (s.out _ _ ⟨d8,ds⟩ (fun b=>?_));simp only[Act.put];clear s K;refine wpAnyH_take (i:=17) (v:=.pointer (some ⟨f,x,none⟩)) rfl (by kernel_rfl) (by kernel_rfl) (by kernel_rfl) (fun _ _ _ h=>h) (Or.inl ⟨by rfl,fun B d=>?_⟩) b ?_
      ·(obtain⟨m,o⟩:=d;go_simp)
      simp only[Act.put];refine wpAnyH_ready (rs:=[18]) (by kernel_rfl) (by simp) ?_;refine AllReadyH.cons rfl (fun K s=>?_) AllReadyH.nil
      go_simp
      refine s.out _ _ ⟨s8,ss⟩ (fun b=>?_);clear s K;refine wpAnyH_done (by kernel_rfl) ?_ _;go_wp2_with fail;go_roundg (I - (k+1))
      case measure=>omega
      case rel=>exact⟨k+1,by simp,by omega,Nat.le_refl _,HF⟩
     ·go_simp
      refine s.out _ _ ⟨a2,a3⟩ (fun b=>?_);clear s K;refine wpAnyH_ready (rs:=[13]) (by kernel_rfl) (by simp) ?_;refine AllReadyH.cons rfl (fun K s=>?_) AllReadyH.nil
      go_simp
      refine s.out _ _ ⟨a2,a3⟩ (fun b=>?_);clear s K;refine wpAnyH_ready (rs:=[16]) (by kernel_rfl) (by simp) ?_;refine AllReadyH.cons rfl (fun K s=>?_) AllReadyH.nil;refine zb rfl (.tmp 38) (.tmp 40) rfl rfl (by simp[Act.eval]) (by simp[Act.eval]) A (s.out _ _ ⟨d8,ds⟩ (fun b=>?_));simp only[Act.put];clear s K;refine wpAnyH_take (i:=17) (v:=.pointer (some ⟨f,x,none⟩)) rfl (by kernel_rfl) (by kernel_rfl) (by kernel_rfl) (fun _ _ _ h=>h) (Or.inl ⟨by rfl,fun B d=>?_⟩) b ?_
      ·(obtain⟨m,o⟩:=d;go_simp)
      simp only[Act.put];refine wpAnyH_ready (rs:=[18]) (by kernel_rfl) (by simp) ?_;refine AllReadyH.cons rfl (fun K s=>?_) AllReadyH.nil
      go_simp
      refine s.out _ _ ⟨s8,ss⟩ (fun b=>?_);clear s K;refine wpAnyH_done (by kernel_rfl) ?_ _;go_wp2_with fail;go_roundg (I - (k+1))
      case measure=>omega
      case rel=>exact⟨k+1,by simp,by omega,Nat.le_refl _,HF⟩
   ·have b3:¬(k:Int)<(I:Int):=by omega
    have c5:k=S.rs.length:=by rw[a1.out];omega
    have HF:Hid (Below w.heap.size w wr/\∃f y,GA wr w.heap.size p f y h S n (rwt S n S.rs.length)):=by
     have:=J.out;rw[c5]at this;exact this
    clear J;go_wp2_with fail;go_ret;obtain⟨hb,f,y,C⟩:=HF.out;exact⟨p,rfl,⟨f,y,C⟩,hb⟩
end Go.Proofs.YtbdogaaooeoccaaGreatDoor
namespace Go.Proofs.YtbdogaaooeoccaaGreatDoor
open Go.RowKit Go.Shelf
def qr1:Go.Shelf.Ren:=⟨fun | 6=>70 | 15=>75 | 14=>90 | 28=>102 | 29=>103 | 20=>114 | 21=>115 | 22=>116 | 23=>117 | 24=>118 | 25=>119 | 26=>120 | 27=>121 | 46=>140 | 47=>124 | 48=>125 | 49=>141 | 50=>142 | 57=>157 | n=>n,fun | 22=>46 | 24=>54 | 25=>114 | 3=>3 | 39=>118 | 0=>0 | 53=>138 | 55=>140 | 4=>4 | 46=>132 | 45=>131 | 50=>76 | 5=>5 | 9=>9 | 66=>151 | 70=>155 | 76=>165 | 77=>166 | n=>n,fun | n=>n⟩
theorem srtS:SlLaysF0.n6 Tryz.prog qr1 where
 mixed:=by kernel_rfl
 f6:=⟨Tryz.f70.name,by kernel_rfl,Tryz.func70.trans (congrArg some (by kernel_rfl))⟩
 f14:=⟨Tryz.f90.name,by kernel_rfl,Tryz.func90.trans (congrArg some (by kernel_rfl))⟩
 f15:=Tryz.func75.trans (congrArg some (by kernel_rfl))
 f20:=⟨Tryz.f114.name,by kernel_rfl,Tryz.func114.trans (congrArg some (by kernel_rfl))⟩
 f21:=⟨Tryz.f115.name,by kernel_rfl,Tryz.func115.trans (congrArg some (by kernel_rfl))⟩
 f22:=⟨Tryz.f116.name,by kernel_rfl,Tryz.func116.trans (congrArg some (by kernel_rfl))⟩
 f23:=⟨Tryz.f117.name,by kernel_rfl,Tryz.func117.trans (congrArg some (by kernel_rfl))⟩
 f24:=⟨Tryz.f118.name,by kernel_rfl,Tryz.func118.trans (congrArg some (by kernel_rfl))⟩
 f25:=⟨Tryz.f119.name,by kernel_rfl,Tryz.func119.trans (congrArg some (by kernel_rfl))⟩
 f26:=⟨Tryz.f120.name,by kernel_rfl,Tryz.func120.trans (congrArg some (by kernel_rfl))⟩
 f27:=⟨Tryz.f121.name,by kernel_rfl,Tryz.func121.trans (congrArg some (by kernel_rfl))⟩
 f28:=Tryz.func102.trans (congrArg some (by kernel_rfl))
 f29:=Tryz.func103.trans (congrArg some (by kernel_rfl))
 f46:=⟨Tryz.f140.name,by kernel_rfl,Tryz.func140.trans (congrArg some (by kernel_rfl))⟩
 f47:=Tryz.func124.trans (congrArg some (by kernel_rfl))
 f48:=Tryz.func125.trans (congrArg some (by kernel_rfl))
 f49:=⟨Tryz.f141.name,by kernel_rfl,Tryz.func141.trans (congrArg some (by kernel_rfl))⟩
 f50:=⟨Tryz.f142.name,by kernel_rfl,Tryz.func142.trans (congrArg some (by kernel_rfl))⟩
 f57:=⟨Tryz.f157.name,by kernel_rfl,Tryz.func157.trans (congrArg some (by kernel_rfl))⟩
 t0:=Tryz.underlying0
 a0:=Tryz.isAgg0
 z0:=Tryz.sizeOf0
 v0:=Tryz.zeroValue0
 t3:=Tryz.underlying3
 a3:=Tryz.isAgg3
 z3:=Tryz.sizeOf3
 v3:=Tryz.zeroValue3
 t4:=Tryz.underlying4
 a4:=Tryz.isAgg4
 z4:=Tryz.sizeOf4
 v4:=Tryz.zeroValue4
 t5:=Tryz.underlying5
 a5:=Tryz.isAgg5
 z5:=Tryz.sizeOf5
 v5:=Tryz.zeroValue5
 t9:=Tryz.underlying9
 a9:=Tryz.isAgg9
 z9:=Tryz.sizeOf9
 v9:=Tryz.zeroValue9
 t22:=Tryz.underlying46
 a22:=Tryz.isAgg46
 z22:=Tryz.sizeOf46
 v22:=Tryz.zeroValue46
 t25:=Tryz.underlying114
 a25:=Tryz.isAgg114
 z25:=Tryz.sizeOf114
 v25:=Tryz.zeroValue114
 t39:=Tryz.underlying118
 a39:=Tryz.isAgg118
 z39:=Tryz.sizeOf118
 v39:=Tryz.zeroValue118
 t45:=Tryz.underlying131
 a45:=Tryz.isAgg131
 z45:=Tryz.sizeOf131
 v45:=Tryz.zeroValue131
 t46:=Tryz.underlying132
 a46:=Tryz.isAgg132
 z46:=Tryz.sizeOf132
 v46:=Tryz.zeroValue132
 t50:=Tryz.underlying76
 a50:=Tryz.isAgg76
 z50:=Tryz.sizeOf76
 v50:=Tryz.zeroValue76
 t53:=Tryz.underlying138
 a53:=Tryz.isAgg138
 z53:=Tryz.sizeOf138
 v53:=Tryz.zeroValue138
 t55:=Tryz.underlying140
 a55:=Tryz.isAgg140
 z55:=Tryz.sizeOf140
 v55:=Tryz.zeroValue140
 t66:=Tryz.underlying151
 a66:=Tryz.isAgg151
 z66:=Tryz.sizeOf151
 v66:=Tryz.zeroValue151
 t70:=Tryz.underlying155
 a70:=Tryz.isAgg155
 z70:=Tryz.sizeOf155
 v70:=Tryz.zeroValue155
 t76:=Tryz.underlying165
 a76:=Tryz.isAgg165
 z76:=Tryz.sizeOf165
 v76:=Tryz.zeroValue165
 t77:=Tryz.underlying166
 a77:=Tryz.isAgg166
 z77:=Tryz.sizeOf166
 v77:=Tryz.zeroValue166
def qlh:Go.Shelf.Ren:=⟨fun | 7=>37 | 10=>51 | n=>n,fun | 23=>80 | 26=>3 | 3=>46 | 28=>84 | 0=>0 | 27=>83 | 33=>95 | 4=>4 | n=>n,fun | n=>n⟩
theorem keyS:SlLaysZI.n7 Tryz.prog qlh where
 mixed:=by kernel_rfl
 f7:=⟨Tryz.f37.name,by kernel_rfl,Tryz.func37.trans (congrArg some (by kernel_rfl))⟩
 f10:=⟨Tryz.f51.name,by kernel_rfl,Tryz.func51.trans (congrArg some (by kernel_rfl))⟩
 t0:=Tryz.underlying0
 a0:=Tryz.isAgg0
 z0:=Tryz.sizeOf0
 v0:=Tryz.zeroValue0
 t4:=Tryz.underlying4
 a4:=Tryz.isAgg4
 z4:=Tryz.sizeOf4
 v4:=Tryz.zeroValue4
 t23:=Tryz.underlying80
 a23:=Tryz.isAgg80
 z23:=Tryz.sizeOf80
 v23:=Tryz.zeroValue80
 t26:=Tryz.underlying3
 a26:=Tryz.isAgg3
 z26:=Tryz.sizeOf3
 v26:=Tryz.zeroValue3
 t27:=Tryz.underlying83
 a27:=Tryz.isAgg83
 z27:=Tryz.sizeOf83
 v27:=Tryz.zeroValue83
 t28:=Tryz.underlying84
 a28:=Tryz.isAgg84
 z28:=Tryz.sizeOf84
 v28:=Tryz.zeroValue84
 t33:=Tryz.underlying95
 a33:=Tryz.isAgg95
 z33:=Tryz.sizeOf95
 v33:=Tryz.zeroValue95
def qli:Go.Shelf.Ren:=⟨fun | 6=>36 | 8=>49 | 9=>50 | 11=>73 | 13=>75 | 12=>74 | 23=>102 | 24=>103 | 14=>93 | 15=>94 | 16=>95 | 17=>96 | 18=>97 | 19=>98 | 20=>99 | 21=>100 | 22=>101 | 25=>123 | 26=>124 | 27=>125 | 28=>126 | 29=>127 | 30=>122 | 31=>143 | n=>n,fun | 26=>3 | 28=>84 | 24=>28 | 0=>0 | 3=>3 | 37=>118 | 48=>138 | 50=>140 | 4=>4 | 40=>132 | 39=>131 | 45=>76 | 5=>5 | 9=>9 | 51=>151 | 55=>155 | 57=>165 | 58=>166 | 33=>95 | n=>n,fun | n=>n⟩
theorem sodS:SlLaysZI.n6 Tryz.prog qli where
 mixed:=by kernel_rfl
 f6:=⟨Tryz.f36.name,by kernel_rfl,Tryz.func36.trans (congrArg some (by kernel_rfl))⟩
 f8:=⟨Tryz.f49.name,by kernel_rfl,Tryz.func49.trans (congrArg some (by kernel_rfl))⟩
 f11:=⟨Tryz.f73.name,by kernel_rfl,Tryz.func73.trans (congrArg some (by kernel_rfl))⟩
 t0:=Tryz.underlying0
 a0:=Tryz.isAgg0
 z0:=Tryz.sizeOf0
 v0:=Tryz.zeroValue0
 t24:=Tryz.underlying28
 a24:=Tryz.isAgg28
 z24:=Tryz.sizeOf28
 v24:=Tryz.zeroValue28
 t26:=Tryz.underlying3
 a26:=Tryz.isAgg3
 z26:=Tryz.sizeOf3
 v26:=Tryz.zeroValue3
 t28:=Tryz.underlying84
 a28:=Tryz.isAgg84
 z28:=Tryz.sizeOf84
 v28:=Tryz.zeroValue84
 i26:=by kernel_rfl
def qr2:Go.Shelf.Ren:=⟨fun | 5=>50 | 8=>75 | 7=>74 | 19=>102 | 20=>103 | 10=>93 | 11=>94 | 12=>95 | 13=>96 | 14=>97 | 15=>98 | 16=>99 | 17=>100 | 18=>101 | 30=>123 | 31=>124 | 32=>125 | 33=>126 | 34=>127 | 35=>122 | 40=>143 | n=>n,fun | 23=>28 | 25=>3 | 3=>3 | 32=>118 | 22=>28 | 0=>0 | 44=>138 | 46=>140 | 4=>4 | 36=>132 | 35=>131 | 41=>76 | 5=>5 | 9=>9 | 53=>151 | 57=>155 | 63=>165 | 64=>166 | n=>n,fun | n=>n⟩
theorem isoS:SlLaysM.n5 Tryz.prog qr2 where
 mixed:=by kernel_rfl
 f5:=⟨Tryz.f50.name,by kernel_rfl,Tryz.func50.trans (congrArg some (by kernel_rfl))⟩
 f7:=⟨Tryz.f74.name,by kernel_rfl,Tryz.func74.trans (congrArg some (by kernel_rfl))⟩
 f8:=Tryz.func75.trans (congrArg some (by kernel_rfl))
 f10:=⟨Tryz.f93.name,by kernel_rfl,Tryz.func93.trans (congrArg some (by kernel_rfl))⟩
 f11:=⟨Tryz.f94.name,by kernel_rfl,Tryz.func94.trans (congrArg some (by kernel_rfl))⟩
 f12:=⟨Tryz.f95.name,by kernel_rfl,Tryz.func95.trans (congrArg some (by kernel_rfl))⟩
 f13:=⟨Tryz.f96.name,by kernel_rfl,Tryz.func96.trans (congrArg some (by kernel_rfl))⟩
 f14:=⟨Tryz.f97.name,by kernel_rfl,Tryz.func97.trans (congrArg some (by kernel_rfl))⟩
 f15:=⟨Tryz.f98.name,by kernel_rfl,Tryz.func98.trans (congrArg some (by kernel_rfl))⟩
 f16:=⟨Tryz.f99.name,by kernel_rfl,Tryz.func99.trans (congrArg some (by kernel_rfl))⟩
 f17:=⟨Tryz.f100.name,by kernel_rfl,Tryz.func100.trans (congrArg some (by kernel_rfl))⟩
 f18:=⟨Tryz.f101.name,by kernel_rfl,Tryz.func101.trans (congrArg some (by kernel_rfl))⟩
 f19:=Tryz.func102.trans (congrArg some (by kernel_rfl))
 f20:=Tryz.func103.trans (congrArg some (by kernel_rfl))
 f30:=⟨Tryz.f123.name,by kernel_rfl,Tryz.func123.trans (congrArg some (by kernel_rfl))⟩
 f31:=Tryz.func124.trans (congrArg some (by kernel_rfl))
 f32:=Tryz.func125.trans (congrArg some (by kernel_rfl))
 f33:=⟨Tryz.f126.name,by kernel_rfl,Tryz.func126.trans (congrArg some (by kernel_rfl))⟩
 f34:=⟨Tryz.f127.name,by kernel_rfl,Tryz.func127.trans (congrArg some (by kernel_rfl))⟩
 f35:=⟨Tryz.f122.name,by kernel_rfl,Tryz.func122.trans (congrArg some (by kernel_rfl))⟩
 f40:=⟨Tryz.f143.name,by kernel_rfl,Tryz.func143.trans (congrArg some (by kernel_rfl))⟩
 t0:=Tryz.underlying0
 a0:=Tryz.isAgg0
 z0:=Tryz.sizeOf0
 v0:=Tryz.zeroValue0
 t3:=Tryz.underlying3
 a3:=Tryz.isAgg3
 z3:=Tryz.sizeOf3
 v3:=Tryz.zeroValue3
 t4:=Tryz.underlying4
 a4:=Tryz.isAgg4
 z4:=Tryz.sizeOf4
 v4:=Tryz.zeroValue4
 t5:=Tryz.underlying5
 a5:=Tryz.isAgg5
 z5:=Tryz.sizeOf5
 v5:=Tryz.zeroValue5
 t9:=Tryz.underlying9
 a9:=Tryz.isAgg9
 z9:=Tryz.sizeOf9
 v9:=Tryz.zeroValue9
 t22:=Tryz.underlying28
 a22:=Tryz.isAgg28
 z22:=Tryz.sizeOf28
 v22:=Tryz.zeroValue28
 t23:=Tryz.underlying28
 a23:=Tryz.isAgg28
 z23:=Tryz.sizeOf28
 v23:=Tryz.zeroValue28
 t25:=Tryz.underlying3
 a25:=Tryz.isAgg3
 z25:=Tryz.sizeOf3
 v25:=Tryz.zeroValue3
 t32:=Tryz.underlying118
 a32:=Tryz.isAgg118
 z32:=Tryz.sizeOf118
 v32:=Tryz.zeroValue118
 t35:=Tryz.underlying131
 a35:=Tryz.isAgg131
 z35:=Tryz.sizeOf131
 v35:=Tryz.zeroValue131
 t36:=Tryz.underlying132
 a36:=Tryz.isAgg132
 z36:=Tryz.sizeOf132
 v36:=Tryz.zeroValue132
 t41:=Tryz.underlying76
 a41:=Tryz.isAgg76
 z41:=Tryz.sizeOf76
 v41:=Tryz.zeroValue76
 t44:=Tryz.underlying138
 a44:=Tryz.isAgg138
 z44:=Tryz.sizeOf138
 v44:=Tryz.zeroValue138
 t46:=Tryz.underlying140
 a46:=Tryz.isAgg140
 z46:=Tryz.sizeOf140
 v46:=Tryz.zeroValue140
 t53:=Tryz.underlying151
 a53:=Tryz.isAgg151
 z53:=Tryz.sizeOf151
 v53:=Tryz.zeroValue151
 t57:=Tryz.underlying155
 a57:=Tryz.isAgg155
 z57:=Tryz.sizeOf155
 v57:=Tryz.zeroValue155
 t63:=Tryz.underlying165
 a63:=Tryz.isAgg165
 z63:=Tryz.sizeOf165
 v63:=Tryz.zeroValue165
 t64:=Tryz.underlying166
 a64:=Tryz.isAgg166
 z64:=Tryz.sizeOf166
 v64:=Tryz.zeroValue166
end Go.Proofs.YtbdogaaooeoccaaGreatDoor
namespace Go.Proofs.YtbdogaaooeoccaaGreatDoor
open Go.RowKit Go.Sort
def cmpI (a b:Int):Int:=if a<b then -1 else if b<a then 1 else 0
def cfI (x y:It):Int:=if cmpI x.1 y.1≠0 then cmpI x.1 y.1 else cmpI x.2 y.2
theorem qiw(a:Int)(w:World):Calls Tryz.prog 122 #[.int .i64 a] w fun e b=>e=.returned (.bool false)/\b=w:=by
 go_enter Tryz.func122,Tryz.ntmps122;go_wp2_with fail;go_ret;exact⟨rfl,rfl⟩
theorem qp0(a b:Int)(w:World):Calls Tryz.prog 92 #[.int .i64 a,.int .i64 b] w fun e c=>e=.returned (.int .i64 (cmpI a b))/\c=w:=by
 have f:=hid (qiw a);have d:=hid (qiw b)
 rcases Int.lt_trichotomy a b with h | h | h
 ·have e:cmpI a b=-1:=by unfold cmpI;rw[if_pos h]
  go_enter Tryz.func92,Tryz.ntmps92;go_wp2_with fail;refine(f.out _).mono ?_;rintro e c ⟨rfl,rfl⟩;go_wp2_with fail;refine(d.out _).mono ?_;rintro e c ⟨rfl,rfl⟩;go_wp2_with fail;go_ret;exact⟨by rw[e];rfl,rfl⟩
 ·subst h
  have e:cmpI a a=0:=by unfold cmpI;rw[if_neg (Int.lt_irrefl a),if_neg (Int.lt_irrefl a)]
  go_enter Tryz.func92,Tryz.ntmps92;go_wp2_with fail;refine(f.out _).mono ?_;rintro e c ⟨rfl,rfl⟩;go_wp2_with fail;refine(d.out _).mono ?_;rintro e c ⟨rfl,rfl⟩;go_wp2_with fail;go_ret;exact⟨by rw[e];rfl,rfl⟩
 ·have g:¬a<b:=by omega
  have e:cmpI a b=1:=by unfold cmpI;rw[if_neg g,if_pos h]
  go_enter Tryz.func92,Tryz.ntmps92;go_wp2_with fail;refine(f.out _).mono ?_;rintro e c ⟨rfl,rfl⟩;go_wp2_with fail;refine(d.out _).mono ?_;rintro e c ⟨rfl,rfl⟩;go_wp2_with fail;go_ret;exact⟨by rw[e];rfl,rfl⟩
theorem qr3(x y:Int)(f:Nat)(w:World)(m:w.cell? ⟨f,0,none⟩=some (.int .i64 x))(n:w.cell? ⟨f,1,none⟩=some (.int .i64 y)):
  Calls Tryz.prog 91 #[.slice (some ⟨f,0,none⟩) 2 2] w fun e l=>e=.returned (.int .i64 (if x≠0 then x else y))/\l=w:=by
 obtain⟨r,d⟩:∃r,Hid (r=(if x≠0 then x else y)):=⟨_,rfl⟩
 rw[<-d.out];go_enter Tryz.func91,Tryz.ntmps91;go_wp2_with fail
 go_loopg [8] 2 (fun kx s8 wr=>∃k:Nat,s8=.int .i64 k/\k<=2/\2 - k<=kx/\Hid (wr=w/\(1<=k->x=0)/\(2<=k->y=0)))
 case atStart=>exact⟨0,rfl,Nat.zero_le _,by omega,(⟨rfl,fun h=>absurd h (by decide),fun h=>absurd h (by decide)⟩:w=w/\(1<=0->x=0)/\(2<=0->y=0))⟩
 case round =>
  obtain⟨k,rfl,p,o,J⟩:=hrel;have j:=J.out.1;subst j
  rcases (by omega:k=0\/k=1\/k=2) with rfl | rfl | rfl
  ·by_cases a:x=0
   ·have g:(x != 0)=false:=by rw[a];rfl
    have c:=hid a;clear a;go_wp2_with fail;go_roundg 1
    case measure=>omega
    case rel=>exact⟨1,rfl,by omega,by omega,(⟨rfl,fun _=>c.out,fun h=>absurd h (by decide)⟩:wr=wr/\(1<=1->x=0)/\(2<=1->y=0))⟩
   ·have g:(x != 0)=true:=by rw[bne_iff_ne];exact a
    have b:Hid (r=x):=by show _=_;rw[d.out,if_pos a]
    clear a;go_wp2_with fail;go_ret;exact⟨by rw[b.out];rfl,rfl⟩
  ·have c:=hid (J.out.2.1 (by decide))
   by_cases a:y=0
   ·have g:(y != 0)=false:=by rw[a];rfl
    have i:=hid a;clear a;go_wp2_with fail;go_roundg 0
    case measure=>omega
    case rel=>exact⟨2,rfl,by omega,by omega,(⟨rfl,fun _=>c.out,fun _=>i.out⟩:wr=wr/\(1<=2->x=0)/\(2<=2->y=0))⟩
   ·have g:(y != 0)=true:=by rw[bne_iff_ne];exact a
    have b:Hid (r=y):=by show _=_;rw[d.out,c.out];rfl
    clear a;go_wp2_with fail;go_ret;exact⟨by rw[b.out];rfl,rfl⟩
  ·have b:Hid (r=0):=by show _=_;rw[d.out,J.out.2.1 (by decide),J.out.2.2 (by decide)];rfl
   go_wp2_with fail;go_ret;exact⟨by rw[b.out];rfl,rfl⟩
theorem qlj{W:World}{b:Nat}{x:It}(h:W.heap[b]?=some (.cells #[.int .i64 (x.1:Int),.int .i64 (x.2:Int)] 54 (0,0))):W.cell? ⟨b,0,none⟩=some (.int .i64 (x.1:Int))/\W.cell? ⟨b,1,none⟩=some (.int .i64 (x.2:Int)) :=
 ⟨by rw[qe h];rfl,by rw[qe h];rfl⟩
theorem qoc(x y:It)(W:World):Calls Tryz.prog 71 #[.agg #[.int .i64 (x.1:Int),.int .i64 (x.2:Int)],.agg #[.int .i64 (y.1:Int),.int .i64 (y.2:Int)]] W fun e f=>e=.returned (.int .i64 (cfI x y))/\∃q n,f=grow (W.drewN q) n:=by
 obtain⟨a,b⟩:=x;obtain⟨c,d⟩:=y;simp only
 have z:Hid (∀(p q:Int) (V:World),Calls Tryz.prog 92 #[.int .i64 p,.int .i64 q] V fun e f=>e=.returned (.int .i64 (cmpI p q))/\f=V):=fun p q V=>qp0 p q V
 have l:Hid (∀(V:World) (m:Nat),V.cell? ⟨m,0,none⟩=some (.int .i64 (cmpI (a:Int) (c:Int)))->V.cell? ⟨m,1,none⟩=some (.int .i64 (cmpI (b:Int) (d:Int)))->Calls Tryz.prog 91 #[.slice (some ⟨m,0,none⟩) 2 2] V fun e f=>e=.returned (.int .i64 (cfI (a,b) (c,d)))/\f=V):=fun V m j k=>qr3 _ _ m V j k
 generalize cfI (a,b) (c,d)=r at l ⊢;have j:((W.alloc (.cells #[.int .i64 (a:Int),.int .i64 (b:Int)] 54)).alloc (.cells #[.int .i64 (c:Int),.int .i64 (d:Int)] 54)).heap[W.heap.size]?=some (.cells #[.int .i64 (a:Int),.int .i64 (b:Int)] 54 (0,0)):=qf (qb _ _) (heap_alloc_new _ _)
 have k:((W.alloc (.cells #[.int .i64 (a:Int),.int .i64 (b:Int)] 54)).alloc (.cells #[.int .i64 (c:Int),.int .i64 (d:Int)] 54)).heap[W.heap.size+1]?=some (.cells #[.int .i64 (c:Int),.int .i64 (d:Int)] 54 (0,0)):=by
  have:=heap_alloc_new (W.alloc (.cells #[.int .i64 (a:Int),.int .i64 (b:Int)] 54)) (.cells #[.int .i64 (c:Int),.int .i64 (d:Int)] 54);rw[qz]at this;exact this
 have s:Hid ((W.alloc (.cells #[.int .i64 (a:Int),.int .i64 (b:Int)] 54)).alloc (.cells #[.int .i64 (c:Int),.int .i64 (d:Int)] 54)=grow W #[.cells #[.int .i64 (a:Int),.int .i64 (b:Int)] 54,.cells #[.int .i64 (c:Int),.int .i64 (d:Int)] 54]):=by
  show _=_;rw[alloc_eq_grow,alloc_eq_grow,grow_grow];rfl
 go_enter Tryz.func71,Tryz.ntmps71
 go_upto_region 1 with fail
 generalize (W.alloc (.cells #[.int .i64 (a:Int),.int .i64 (b:Int)] 54)).alloc (.cells #[.int .i64 (c:Int),.int .i64 (d:Int)] 54)=i at s j k ⊢;generalize A:W.heap.size=g at j k ⊢
 have h:Hid (∀V,Below i.heap.size i V->V.cell? ⟨g,0,none⟩=some (.int .i64 (a:Int))/\V.cell? ⟨g,1,none⟩=some (.int .i64 (b:Int))/\V.cell? ⟨g+1,0,none⟩=some (.int .i64 (c:Int))/\V.cell? ⟨g+1,1,none⟩=some (.int .i64 (d:Int))):=fun V t=>by
  have u:=qlj (x:=(a,b)) (qf t j);have v:=qlj (x:=(c,d)) (qf t k);exact⟨u.1,u.2,v.1,v.2⟩
 clear j k
 have o:Hid (∀(V:World) (p q:Int),(V.alloc (.cells #[.int .i64 p,.int .i64 q] 3)).cell? ⟨V.heap.size,0,none⟩=some (.int .i64 p)/\(V.alloc (.cells #[.int .i64 p,.int .i64 q] 3)).cell? ⟨V.heap.size,1,none⟩=some (.int .i64 q)):=fun V p q=>⟨by rw[qe (heap_alloc_new V _)];rfl,by rw[qe (heap_alloc_new V _)];rfl⟩
 go_region_held (fun f=>f.cell? ⟨g,0,none⟩=some (.int .i64 (a:Int))/\f.cell? ⟨g,1,none⟩=some (.int .i64 (b:Int))/\f.cell? ⟨g+1,0,none⟩=some (.int .i64 (c:Int))/\f.cell? ⟨g+1,1,none⟩=some (.int .i64 (d:Int))) (first | exact h.out _ (qo _) | exact h.out _ (qd (qo _) (qb _ _)) | exact h.out _ (qd (qb _ _) (qo _))) (first
  | (go_at_call 92;refine(z.out _ _ _).mono ?_;rintro e f ⟨rfl,rfl⟩)
  | (go_at_call 91;refine(l.out ((i.alloc (.cells #[.int .i64 (cmpI (a:Int) (c:Int)),.int .i64 (cmpI (b:Int) (d:Int))] 3)).drew) i.heap.size (o.out i _ _).1 (o.out i _ _).2).mono ?_;rintro e f ⟨rfl,rfl⟩))
 all_goals
  go_wp2_with fail;go_ret;exact⟨rfl,1,_,by rw[s.out,alloc_eq_grow];exact grow_grow W.drew _ _⟩
def encI (x:It):List Value:=[.int .i64 (x.1:Int),.int .i64 (x.2:Int)]
theorem qha(l:List It):(flatK encI 2 l.toArray).toList=itC l:=by
 apply List.ext_getElem?
 intro t
 have g:(flatK encI 2 l.toArray).size=l.length * 2:=by rw[size_flatK];simp
 rcases Nat.lt_or_ge t (l.length * 2) with h | h
 ·have hd:t / 2<l.length:=by omega
  have b:=qg7 (List.getElem?_eq_getElem hd)
  have f:l.toArray[t / 2]! =l[t / 2]:=by simp[hd]
  have d:(flatK encI 2 l.toArray)[t]! =(encI l[t / 2])[t % 2]!:=by rw[get_flatK _ _ _ _ (by simpa using h),f]
  generalize l[t / 2]=x at b d;rw[Array.getElem?_toList,Array.getElem?_eq_getElem (by omega),<-getElem!_pos (flatK encI 2 l.toArray) t (by omega),d]
  rcases (by omega:t % 2=0\/t % 2=1) with h2 | h2
  ·have c:t=t / 2 * 2:=by omega
   have a:=b.1;rw[<-c]at a;rw[h2,a];rfl
  ·have c:t=t / 2 * 2+1:=by omega
   have a:=b.2;rw[<-c]at a;rw[h2,a];rfl
 ·rw[List.getElem?_eq_none (by rw[Array.length_toList];omega),List.getElem?_eq_none (by rw[qbx];omega)]
theorem qsc(x y:It):cfI x y<0↔ltI x y:=by
 unfold cfI cmpI ltI
 split <;> split <;> (try split) <;> (try split) <;> omega
theorem qd0(x y:It):ltOf cfI x y=decide (ltI x y):=by
 unfold ltOf
 by_cases h:ltI x y
 ·rw[decide_eq_true h,decide_eq_true ((qsc x y).2 h)]
 ·rw[decide_eq_false h,decide_eq_false (fun e=>h ((qsc x y).1 e))]
theorem que:SWO (ltOf cfI) where
 irrefl x:=by rw[qd0];exact decide_eq_false (qda x)
 trans x y z h1 h2:=by
  rw[qd0,decide_eq_true_eq]at *
  exact qpu h1 h2
 ntrans x y z h1 h2:=by
  rw[qd0,decide_eq_false_iff_not]at *
  unfold ltI at *
  omega
theorem qr4(a:Array Value)(l:List It)(h:l.length * 2<=a.size):(putCells id 0 (flatK encI 2 l.toArray) a).toList.take (l.length * 2)=itC l:=by
 rw[<-qha]
 have d:(flatK encI 2 l.toArray).size=l.length * 2:=by rw[size_flatK];simp
 generalize flatK encI 2 l.toArray=F at d ⊢
 apply List.ext_getElem?
 intro j
 rcases Nat.lt_or_ge j (l.length * 2) with hj | hj
 ·rw[List.getElem?_take_of_lt hj,Array.getElem?_toList,Array.getElem?_toList]
  have b:j<F.size:=by omega
  have c:j<a.size:=by omega
  simp[putCells,b,c]
 ·rw[List.getElem?_take_eq_none hj,List.getElem?_eq_none (by rw[Array.length_toList];omega)]
theorem qod(W:World)(B g n c:Nat)(l:List It)(h:W.ownsRow B 54 2 (.slice (some ⟨g,0,none⟩) n c) n (itC l))(N:n<=100000):
  Calls Tryz.prog 70 #[.slice (some ⟨g,0,none⟩) n c,.func (.func 71) #[] #[]] W fun e p=>e=.returned (.tuple #[])/\∃l',l'.Perm l/\l'.Pairwise (fun x y=>¬ltI y x)/\p.ownsRow B 54 2 (.slice (some ⟨g,0,none⟩) n c) n (itC l')/\Kept (fun k=>k=g) W p:=by
 have F:=yz (j2 h)
 rcases h.2 with ⟨h0,-⟩ | ⟨g',cap,cur,o,hB,hb,hnc,hcm,hcs,htk⟩
 ·cases h0
 ·injection o with b D e3
  injection b with b
  injection b with b _
  subst b e3
  have C:(flatK encI 2 l.toArray).size=n * 2:=by rw[size_flatK];simp[F]
  have H:HoldsK encI 2 W g 0 l.toArray:=fun j u=>by
   rw[C]at u
   have G:(cur.toList.take (n * 2))[j]?=(itC l)[j]?:=by rw[htk]
   have e0:(flatK encI 2 l.toArray)[j]?=some (flatK encI 2 l.toArray)[j]!:=by rw[getElem!_pos (flatK encI 2 l.toArray) j (by omega)];exact Array.getElem?_eq_getElem _
   rw[List.getElem?_take_of_lt u,Array.getElem?_toList,<-qha,Array.getElem?_toList,e0]at G;refine⟨?_,by simp[World.frozen?,hb]⟩;rw[Nat.zero_add,qe hb];exact G
  have E:=AnyQ.slices_SortFunc srtS 2 Tryz.isAgg54 Tryz.sizeOf54 encI (fun _=>rfl) (fun x v o=>by simp[encI]at o;rcases o with rfl | rfl <;> rfl) cfI que 71 #[] g 0 c l.toArray W (enters_of Tryz.func71 (by kernel_rfl) rfl) (fun _ _ _ _ x y=>qoc x y _) H (Array.getElem?_eq_some_iff.1 hb).1 (by simp;omega)
  have q:l.toArray.size=n:=by simp[F]
  rw[q]at E;refine E.mono ?_;rintro e p ⟨rfl,a,m,L,⟨A,-,f⟩,K,rfl⟩
  have hd:a.size=n:=by rw[A,q]
  have d:a.toList.length=n:=by rw[Array.length_toList,hd]
  refine⟨rfl,a.toList,?_,?_,?_,?_⟩
  ·have b:a.extract 0 n=a:=by rw[<-hd];exact Array.extract_size
   have D:l.toArray.extract 0 n=l.toArray:=by rw[<-q];exact Array.extract_size
   rw[b,D]at f;exact f
  ·rw[List.pairwise_iff_getElem];intro i j M u t;have:=K i j (Nat.zero_le _) t (by omega);rw[qd0,decide_eq_false_iff_not,getElem!_pos a i (by omega),getElem!_pos a j (by omega)]at this
   simpa using this
  ·have I:g<W.heap.size:=(Array.getElem?_eq_some_iff.1 hb).1
   have r:(sortWorldK encI 2 W g 0 m a L).heap[g]?=some (.cells (putCells id 0 (flatK encI 2 a) cur) 54 (0,0)):=by
    unfold sortWorldK putRowK;rw[heap_grow_old _ _ (by simpa [putRow,mapBlock,Sort.ahead] using I)];simp[putRow,mapBlock,Sort.ahead,Array.getElem?_modify,hb,onCells]
   refine⟨by rw[qbx,d],.inr ⟨g,c,_,rfl,hB,r,hnc,hcm,by simp[putCells,hcs],?_⟩⟩;have:=qr4 cur a.toList (by rw[d,hcs];exact Nat.mul_le_mul_right _ hnc)
   rw[d]at this;exact this
  ·refine⟨rfl,rfl,rfl,by simp[sortWorldK,putRowK,putRow,mapBlock,Sort.ahead,grow],fun k J z=>?_⟩;unfold sortWorldK putRowK;rw[heap_grow_old _ _ (by simpa [putRow,mapBlock,Sort.ahead] using J)]
   have s:g≠k:=fun e=>z e.symm
   simp[putRow,mapBlock,Sort.ahead,Array.getElem?_modify,s]
end Go.Proofs.YtbdogaaooeoccaaGreatDoor
namespace Go.Proofs.YtbdogaaooeoccaaGreatDoor
open Go.RowKit
theorem qjk(W:World)(l:List It)(i:Option Addr)(n c:Nat)(h:ItR W i n c l)(hd:l.Nodup)(T:n<=100000):
  Calls Tryz.prog 72 #[.slice i n c] W fun e F=>e=.returned (.slice i n c)/\Below W.heap.size W F:=by
 have C:=hid (yz h);have X:n<=c/\c<=9223372036854775807:=zk h;have g:=hid2 h hd;clear h hd
 by_cases o:n<2
 ·have G:decide ((n:Int)<2)=true:=decide_eq_true (by omega);go_enter Tryz.func72,Tryz.ntmps72;go_wp2_with fail;go_ret;exact⟨rfl,Below.refl _ _⟩
 ·have G:decide ((n:Int)<2)=false:=decide_eq_false (by omega);go_enter Tryz.func72,Tryz.ntmps72;go_wp2_with fail
  go_loopg [3] n (fun kx s3 wr=>∃m:Nat,s3=.int .i64 ((m:Int)+1)/\m+1<=n/\n - m<=kx/\Hid (Below W.heap.size W wr))
  case atStart=>exact⟨0,rfl,by omega,by omega,(Below.refl _ _:Below W.heap.size W W)⟩
  case round =>
   obtain⟨m,rfl,S,R,J⟩:=hrel
   by_cases p:m+1<n
   ·have d:(m:Int)+1<(n:Int):=by omega
    obtain⟨x,s⟩:∃x,l[m+1]?=some x:=⟨l[m+1]'(by rw[C.out];exact p),List.getElem?_eq_getElem _⟩
    obtain⟨y,t⟩:∃y,l[m]?=some y:=⟨l[m]'(by rw[C.out];omega),List.getElem?_eq_getElem _⟩
    have f:x≠y:=fun e=>by
     subst e;have D:=List.getElem?_eq_some_iff.1 s;have o:=List.getElem?_eq_some_iff.1 t;exact(List.pairwise_iff_getElem.1 g.out.2) m (m+1) o.1 D.1 (by omega) (o.2.trans D.2.symm)
    obtain⟨K,U,b,c1,j⟩:=qe5 (g.out.1.below J.out) s;obtain⟨L,V,a,c2,k⟩:=qe5 (g.out.1.below J.out) t;rw[b]at a
    injection a with a
    injection a with e1 e2
    subst e1 e2 b;clear s t;obtain⟨z,v⟩:=x;obtain⟨B,A⟩:=y;simp only at c1 j c2 k
    go_upto_region 6 with fail
    have N:=zi c1;have O:=zi c2;have P:=zi j;have Q:=zi k
    have H:∀(W:World) (x y:Operand),(eqGuard .eql 54 x y (.agg #[.int .i64 (z:Int),.int .i64 (v:Int)]) (.agg #[.int .i64 (B:Int),.int .i64 (A:Int)])).run Tryz.prog W=.ok () W:=fun W x y=>run_eqGuard_agg W .eql 54 x y _ _ qlf
    have M:∀W:World,(binOp .eql 54 (.agg #[.int .i64 (z:Int),.int .i64 (v:Int)]) (.agg #[.int .i64 (B:Int),.int .i64 (A:Int)])).run Tryz.prog W=.ok (.bool false) W:=fun W=>by
     have:=qpy (z,v) (B,A);rw[decide_eq_false f]at this;rw[qn8,this]
    have E:Hid (∀n u,Below W.heap.size W (onto wr n u)):=fun n u=>qd J.out (ke wr n u)
    clear c1 c2 j k f J;refine zn (by kernel_rfl) ?_
    repeat (go_big_quiet_step (fail))
    refine wpQuiet_nil ?_;intro _ r;obtain⟨⟨nq,I⟩,q⟩:=r;subst q;simp only;go_wp2_with fail;go_roundg (n - (m+1))
    case measure=>omega
    case rel=>exact⟨m+1,by simp,by omega,Nat.le_refl _,E.out _ _⟩
   ·have d:¬(m:Int)+1<(n:Int):=by omega
    go_wp2_with fail;go_ret;exact⟨rfl,J.out⟩
theorem qsd{W:World}{B n m:Nat}{b:Option Addr}{l:List It}(h:W.ownsRow B 54 2 (.slice b n m) n (itC l))(d:B<=W.heap.size)(q:n<100000)(x:It):
  ∃g c a,(Builtin.append_ #[46,46] 46 #[.slice b n m,.slice (some ⟨W.heap.size,0,none⟩) 1 1]).run Tryz.prog (W.alloc (.cells #[.int .i64 (x.1:Int),.int .i64 (x.2:Int)] 54))=.ok (.slice (some ⟨g,0,none⟩) (n+1) c) a/\a.ownsRow B 54 2 (.slice (some ⟨g,0,none⟩) (n+1) c) (n+1) (itC (l++[x]))/\Kept (fun j=>blk b=some j) W a/\Below B W a/\(blk b=some g\/W.heap.size<=g):=by
 obtain⟨g,c,a,s,r,p,o⟩:=xy (us:=[.int .i64 (x.1:Int),.int .i64 (x.2:Int)]) u46 i54 rfl (by decide) (by decide) rfl (fun u f=>by
  simp only[List.mem_cons,List.not_mem_nil,or_false]at f
  rcases f with rfl | rfl <;> rfl) h d q
 have i:=((Kept.refl _ W).alloc _).trans p (fun k _ e=>ze e);exact⟨g,c,a,s,by rw[qry];exact r,i,i.below d (fun j t e=>by have:=(qw h e).1;omega),o.imp ze id⟩
structure CM (w wr:World) (S:Sp) (n:Nat) (K:List It) (ib ic m sb k:Nat) (its:List It) (sn:List Bool):Prop where
 bel:Below w.heap.size w wr
 len:its.length=m
 ow:wr.ownsRow w.heap.size 54 2 (.slice (some ⟨ib,0,none⟩) m ic) m (itC its)
 os:wr.ownsRow w.heap.size 4 1 (.slice (some ⟨sb,0,none⟩) n n) n (booC sn)
 ci:CI S n K its sn k
theorem CM.step{w wr b:World}{S:Sp}{n:Nat}{K:List It}{f g m h k:Nat}{a:List It}{i:List Bool}(c:CM w wr S n K f g m h k a i)(d:Below wr.heap.size wr b):CM w b S n K f g m h k a i :=
 ⟨qd c.bel d,c.len,zl c.ow d,zl c.os d,c.ci⟩
structure CN (w wr:World) (S:Sp) (n:Nat) (K:List It) (ib ic m sb k:Nat) (its0:List It) (sn0:List Bool) (z j:Nat):Prop where
 bel:Below w.heap.size w wr
 ow:wr.ownsRow w.heap.size 54 2 (.slice (some ⟨ib,0,none⟩) m ic) m (itC (its0++((rlo S z).take j).map (fun i=>(i,0))))
 len:(its0++((rlo S z).take j).map (fun i=>(i,0))).length=m
 os:wr.ownsRow w.heap.size 4 1 (.slice (some ⟨sb,0,none⟩) n n) n (booC (sn0.set z true))
theorem qjl(w:World)(B gb rb:Nat)(vs:List (Option Addr × Nat))(h:SHd)(S:Sp)(n:Nat)(U:NSp S n)(g:GA w B gb rb vs h S n (rwt S n S.rs.length))(K:List It)(ka:Option Addr)(Y kc:Nat)(hK:KerP S K)(hk:ItR w ka Y kc K)(d9:0<Y):
  Calls Tryz.prog 47 #[.pointer (some ⟨gb,0,none⟩),.slice ka Y kc] w fun e w'=>∃(f d m:Nat) (L:List It),e=.returned (.slice (some ⟨f,0,none⟩) m d)/\L.length=m/\vq S K L/\w'.ownsRow w.heap.size 54 2 (.slice (some ⟨f,0,none⟩) m d) m (itC L)/\Below w.heap.size w w':=by
 have hn:n<=301:=by have:=U.nn;have:=U.wf.tk;have:=U.wf.nt;omega
 have a5:=yz hk
 have a4:Y<=840:=by
  rw[<-a5];exact qe3 hK.so hK.ok U.nr U.ln
 have C:=hid4 U g hK hk
 have d7:Hid (∀r,S.rs[0]?=some r->r.l=-1):=fun r hr=>by
  rw[U.wf.hd]at hr
  injection hr with hr
  rw[<-hr]
 have d5:=hid a5;clear U g hK hk a5;go_enter Tryz.func47,Tryz.ntmps47;go_wp2_with fail;refine(qcw w K ka Y kc C.out.2.2.2 d9 (by omega)).mono ?_;rintro e W1 ⟨f,d,rfl,c6,N⟩;obtain⟨c0,-,c8⟩:=(C.out.2.1.below N).cells;obtain⟨W2,Q,c7,A⟩:=qdr W1 w.heap.size n (by omega) N.size
 have HS:Hid (CM w W2 S n K f d Y W1.heap.size 0 K (List.replicate n false)):=⟨qd N A,d5.out,zl c6 A,c7,qrx C.out.2.2.1⟩
 generalize W1.heap.size=u at Q HS;clear c6 N c7 A
 go_upto_region 3 with fail
 clear Q c0 c8;have q0:=zq HS.out.ow;go_wp2_with fail
 go_loopg [5,7] 841 (fun kx s5 s7 wr=>∃f d m k:Nat,s5=.slice (some ⟨f,0,none⟩) m d/\s7=.int .i64 (k:Int)/\k<=m/\m<=840/\m<=d/\d<=9223372036854775807/\841 - k<=kx/\Hid (∃a v,CM w wr S n K f d m u k a v))
 case atStart=>exact⟨f,d,Y,0,rfl,rfl,Nat.zero_le _,a4,q0.1,q0.2,by omega,(⟨_,_,HS.out⟩:∃a v,CM w W2 S n K f d Y u 0 a v)⟩
 case round =>
  clear HS q0;obtain⟨f,d,m,k,rfl,rfl,f6,hm,I,H,hg,J⟩:=hrel;obtain⟨a,v,E⟩:=J.out;clear J
  by_cases a6:k<m
  ·have c3:(k:Int)<(m:Int):=by omega
   obtain⟨x,hx⟩:∃x,a[k]?=some x:=⟨a[k]'(by rw[E.len];exact a6),List.getElem?_eq_getElem _⟩
   obtain⟨b1,o1,a3,c1,d1⟩:=qe5 (j2 E.ow) hx
   injection a3 with a3
   injection a3 with e1 e2
   subst e1 e2;rw[Nat.zero_add]at c1 d1;have c9:=E.ci.ok C.out.2.2.1.ok x (List.mem_of_getElem? hx);have HA:=hid (qfl wr gb rb h S n C.out.1 ((C.out.2.1.below E.bel).q) x c9);have a0:=hid hx;have a8:=hid E;clear hx E c9;go_wp2_with fail;refine HA.out.mono ?_;rintro e V ⟨rfl,b0⟩;have s:=hid (a8.out.step b0);clear HA a8 b0 c1 d1
   cases t:ahd S x with
   | none =>
    have G:=qf7 t
    have D:Hid (∃a v,CM w V S n K f d m u (k+1) a v):=⟨a,v,s.out.bel,s.out.len,s.out.ow,s.out.os,s.out.ci.skip a0.out (fun z hz=>by rw[t]at hz;cases hz)⟩
    rw[G];clear G t;go_wp2_with fail;go_roundg (841 - (k+1))
    case measure=>omega
    case rel=>exact⟨f,d,m,k+1,rfl,by simp,a6,hm,I,H,Nat.le_refl _,D⟩
   | some z =>
    have G:=qf6 t
    have M:z<n:=by
     obtain⟨r,f2,Q⟩:=qlb t;exact(C.out.1.sy r (List.mem_of_getElem? f2) z (List.mem_of_getElem? Q)).1
    have f7:decide ((z:Int)<0)=false:=decide_eq_false (by omega)
    have f8:(z:Int)<(n:Int):=by omega
    have cz:=qmu s.out.os M;rw[G];clear G
    cases hf:isF v z with
    | true =>
     have D:Hid (∃a v,CM w V S n K f d m u (k+1) a v):=⟨a,v,s.out.bel,s.out.len,s.out.ow,s.out.os,s.out.ci.skip a0.out (fun z' hz=>by rw[t]at hz;cases hz;exact hf)⟩
     rw[hf]at cz;clear t hf;go_wp2_with fail;go_roundg (841 - (k+1))
     case measure=>omega
     case rel=>exact⟨f,d,m,k+1,rfl,by simp,a6,hm,I,H,Nat.le_refl _,D⟩
    | false =>
     rw[hf]at cz;have fz:=s.out.os.frozenAt z;have b3:=s.out.ci.add d7.out a0.out t M hf;have ga:=C.out.2.1.below s.out.bel;obtain⟨p,hp,cp,-⟩:=ga.grd.at (qar (S:=S) (i:=S.rs.length) M);rw[qhz]at cp;have X:w.heap.size<=u:=(qw s.out.os (b:=u) rfl).1;have a2:Below w.heap.size w (V.setCell ⟨u,z,none⟩ (.bool true)):=s.out.bel.setCell (p:=⟨u,z,none⟩) X _;have a1:=C.out.2.1.below a2;obtain⟨-,-,c8⟩:=a1.cells;obtain⟨p2,P,F,-⟩:=a1.grd.at (qar (S:=S) (i:=S.rs.length) M);rw[hp]at P
     injection P with P
     subst P;rw[qhz]at F;have c5:=qu (za s.out.ow (i:=f) rfl) (za s.out.os (i:=u) rfl) (by decide)
     have HN:Hid (CN w (V.setCell ⟨u,z,none⟩ (.bool true)) S n K f d m u k a v z 0):=by
      refine⟨a2,?_,?_,?_⟩
      ·rw[List.take_zero,List.map_nil,List.append_nil];exact qh s.out.ow (fun i hi=>by cases hi;exact Below.heap_setCell _ _ _ _ c5)
      ·rw[List.take_zero,List.map_nil,List.append_nil];exact s.out.len
      ·rw[qb8];exact(s.out.os.stored z (.bool true)).1
     have HR:Hid (∀V',Below w.heap.size w V'->Row V' 1 p.1 (rlo S z).length p.2 (natC (rlo S z))):=fun V' d8=>by
      have:=Row.of_own ((C.out.2.1.below d8).grd.row z p _ hp (qar (S:=S) (i:=S.rs.length) M));rw[qhz]at this;exact this
     have a7:=hid b3
     have d4:Hid (a.length<=840):=by show _<=_;rw[s.out.len];exact hm
     have d0:=zk (HR.out V s.out.bel);have b9:(rlo S z).length<=40:=Nat.le_trans (qn6 S z) C.out.1.nr;obtain⟨pa,pc⟩:=p;simp only at cp F d0 HR
     obtain⟨R,Z⟩:∃R,Hid ((rlo S z).length=R):=⟨_,rfl⟩
     rw[Z.out]at cp F d0 b9;clear b3 ga a1 hp c5 a2 X t hf s cp
     go_upto_region 9 with fail
     generalize V.setCell ⟨u,z,none⟩ (.bool true)=V1 at HN c8 F ⊢;clear cz fz;go_wp2_with fail;clear c8 F
     go_loopg [5,50] R (fun kx s5 s50 wr=>∃f d m j:Nat,s5=.slice (some ⟨f,0,none⟩) m d/\s50=.int .i64 (j:Int)/\j<=R/\m<=2000/\m<=d/\d<=9223372036854775807/\R - j<=kx/\Hid (CN w wr S n K f d m u k a v z j))
     case atStart=>exact⟨f,d,m,0,rfl,rfl,Nat.zero_le _,by omega,I,H,by omega,HN⟩
     case round =>
      clear HN;obtain⟨f,d,m,j,rfl,rfl,f5,hm,I,H,f4,J⟩:=hrel
      by_cases b5:j<R
      ·have b6:(j:Int)<(R:Int):=by omega
       obtain⟨y,hy⟩:∃y,(rlo S z)[j]?=some y:=⟨(rlo S z)[j]'(by rw[Z.out];exact b5),List.getElem?_eq_getElem _⟩
       obtain⟨b2,o2,f1,cy⟩:=yd (HR.out wr J.out.bel) hy;subst f1;obtain⟨g',c',W',T,ho,hK,hB,-⟩:=qsd J.out.ow J.out.bel.size (by omega) (y,0)
       have D:Hid (CN w W' S n K g' c' (m+1) u k a v z (j+1)):=by
        have e1:(rlo S z).take (j+1)=(rlo S z).take j++[y]:=by
         obtain⟨h1,h2⟩:=List.getElem?_eq_some_iff.1 hy;rw[List.take_succ_eq_append_getElem h1,h2]
        refine⟨J.out.bel.trans hB,?_,?_,?_⟩
        ·rw[e1,List.map_append,<-List.append_assoc];exact ho
        ·rw[e1,List.map_append,<-List.append_assoc,List.length_append,J.out.len];rfl
        ·refine qh J.out.os (fun i hi=>?_)
         cases hi
         exact hK.block u (qw J.out.os (b:=u) rfl).2.1 (fun e=>qu (za J.out.ow (i:=f) rfl) (za J.out.os (i:=u) rfl) (by decide) (by cases e;rfl))
       have q2:=zq D.out.ow
       have f0:m+1<=2000:=by
        have h1:=J.out.len;rw[List.length_append,List.length_map,List.length_take]at h1;have h2:=d4.out;omega
       simp only at T;clear ho hK hB hy J;go_wp2_with(at_builtin;refine Lib.wpList_append_run _ rfl _ _ _ _ rfl _ _ rfl rfl _ _ T ?_)
       go_roundg (R - (j+1))
       case measure=>omega
       case rel=>exact⟨g',c',m+1,j+1,rfl,by simp,b5,f0,q2.1,q2.2,Nat.le_refl _,D⟩
      ·have b6:¬(j:Int)<(R:Int):=by omega
       have b4:j=(rlo S z).length:=by rw[Z.out];omega
       have D:Hid (∃a v,CM w wr S n K f d m u (k+1) a v):=by
        have cn:=J.out;rw[b4]at cn;have o:=cn.ow;have l:=cn.len;rw[List.take_length]at o l;exact⟨_,_,cn.bel,l,o,cn.os,a7.out⟩
       have c4:k+1<=m/\m<=840:=by
        obtain⟨f3,f9,c⟩:=D.out;have h1:=qpx c.ci.nod (c.ci.ok C.out.2.2.1.ok) C.out.1.nr C.out.1.ln;have h2:=c.ci.le;rw[c.len]at h1 h2;exact⟨h2,h1⟩
       clear J a7;go_wp2_with fail;go_roundg (841 - (k+1))
       case measure=>omega
       case rel=>exact⟨f,d,m,k+1,rfl,by simp,c4.1,c4.2,I,H,Nat.le_refl _,D⟩
  ·have c3:¬(k:Int)<(m:Int):=by omega
   have b7:k=a.length:=by rw[E.len];omega
   have HC:Hid (CI S n K a v a.length):=by
    have:=E.ci;rw[b7]at this;exact this
   have a9:=hid (qod wr w.heap.size f m d a E.ow (by omega));have HB:=hid E.bel;have d6:=hid E.len;clear E;go_wp2_with fail;refine a9.out.mono ?_;rintro e V ⟨rfl,L,hp,d2,O,b8⟩
   have HL:Hid (vq S K L/\V.ownsRow w.heap.size 54 2 (.slice (some ⟨f,0,none⟩) m d) m (itC L)/\Below w.heap.size w V/\L.length=m):=⟨HC.out.done hp d2,O,HB.out.trans (b8.below HB.out.size (fun j hj e=>by have:=(qw O (b:=f) rfl).1;omega)),by rw[hp.length_eq,d6.out]⟩
   have d3:=hid (qjk V L (some ⟨f,0,none⟩) m d (j2 O) (qiu HL.out.1.1) (by omega));clear hp d2 O b8 HC a9;go_wp2_with fail;refine d3.out.mono ?_;rintro e V2 ⟨rfl,A⟩
   have D:Hid (Below w.heap.size w V2/\V2.ownsRow w.heap.size 54 2 (.slice (some ⟨f,0,none⟩) m d) m (itC L)):=⟨qd HL.out.2.2.1 A,zl HL.out.2.1 A⟩
   clear A;go_wp2_with fail;go_ret;exact⟨f,d,m,L,rfl,HL.out.2.2.2,HL.out.1,D.out.2,D.out.1⟩
end Go.Proofs.YtbdogaaooeoccaaGreatDoor
namespace Go.Proofs.YtbdogaaooeoccaaGreatDoor
open Go.RowKit Go.Maps
def RV (v:Value):Option (DataW Value × List MemPlace):=some (.held v,[])
theorem key3:Keyed Tryz.prog 3:=int_keyed Tryz.underlying3
theorem qm8{x:Nat}(h:x<=1000):keyOf Tryz.prog 3 (.int .i64 (x:Int))=some (.int .i64 (x:Int)):=keyOf_int_mk Tryz.underlying3 (by
 simp[Lit.wf,IntKind.min,IntKind.max,IntKind.bits,IntKind.signed]
 omega)
structure DM (z0:Value) (dom:List Nat) (f:Nat->Value) (D:DataW Value):Prop where
 im:∃es,D=.map es/\es.Pairwise (fun p q=>p.1≠q.1)/\∀p∈es,∃x:Nat,p.1=.int .i64 (x:Int)
 va:∀z:Nat,D.atKey (.int .i64 (z:Int)) (.held z0)=.held (f z)
 hs:∀z:Nat,has D (.int .i64 (z:Int))=true↔z∈dom
 nd:dom.Nodup
theorem quf(a:Value):DM a [] (fun _=>a) (.map []) :=
 ⟨⟨[],rfl,List.Pairwise.nil,fun p b=>by cases b⟩,fun _=>rfl,fun z=>by simp[has_eq],List.nodup_nil⟩
theorem qp1{x y:Nat}(h:x≠y):(Lit.int .i64 (x:Int))≠.int .i64 (y:Int):=fun e=>by
 injection e with _ e
 exact h (Int.ofNat_inj.1 e)
def domI (dom:List Nat) (z:Nat):List Nat:=if z∈dom then dom else dom++[z]
theorem qa1{a:List Nat}{z y:Nat}:y∈domI a z↔y=z\/y∈a:=by
 unfold domI
 split
 ·rename_i h;exact⟨.inr,fun e=>e.elim (fun e=>e ▸ h) id⟩
 ·rw[List.mem_append,List.mem_singleton,Or.comm]
theorem DM.put{o:Value}{d:List Nat}{f:Nat->Value}{D:DataW Value}(h:DM o d f D)(z:Nat)(v:Value):DM o (domI d z) (fun y=>if y=z then v else f y) (D.put (.int .i64 (z:Int)) (.held v)):=by
 obtain⟨r,m,u,t⟩:=h.im
 have l:Tidy D:=⟨r,m,u⟩
 refine⟨?_,fun y=>?_,fun y=>?_,?_⟩
 ·obtain⟨i,c,j⟩:=l.put (k:=.int .i64 (z:Int)) trivial (.held v);refine⟨i,c,j,fun p g=>?_⟩;rw[m]at c;unfold DataW.put at c;simp only at c
  injection c with c
  rw[<-c]at g
  rcases ChangeMaps.mem_insert_iff.1 g with rfl | e
  ·exact⟨z,rfl⟩
  ·exact t p (List.mem_filter.1 e).1
 ·by_cases e:y=z
  ·subst e;rw[if_pos rfl];exact atKey_put_same l.isMap (k:=.int .i64 (y:Int)) trivial _ _
  ·rw[if_neg e,atKey_put_other (qp1 e)];exact h.va y
 ·rw[qa1]
  by_cases e:y=z
  ·subst e;rw[has_put_same l.isMap (k:=.int .i64 (y:Int)) trivial];exact⟨fun _=>.inl rfl,fun _=>rfl⟩
  ·rw[has_put_other (qp1 e),h.hs y];exact⟨.inr,fun h=>h.elim (fun h=>absurd h e) id⟩
 ·unfold domI
  split
  ·exact h.nd
  ·rename_i e;rw[List.nodup_append]
   exact⟨h.nd,List.pairwise_singleton _ _,fun a s b n q=>by
    rw[List.mem_singleton]at n;subst n q
    exact e s⟩
theorem DM.off{c:Value}{a:List Nat}{f:Nat->Value}{D:DataW Value}(h:DM c a f D){z:Nat}(i:z ∉ a):f z=c:=by
 have b:=h.va z
 have d:has D (.int .i64 (z:Int))=false:=by
  cases g:has D (.int .i64 (z:Int))
  ·rfl
  ·exact absurd ((h.hs z).1 g) i
 rw[atKey_of_not_has d]at b
 injection b with b
 exact b.symm
theorem DM.keys{o:Value}{d:List Nat}{f:Nat->Value}{D:DataW Value}(h:DM o d f D):(d.map fun x:Nat=>(x:Int)).Perm (intKeys D):=by
 obtain⟨q,rfl,m,l⟩:=h.im;refine perm_intKeys m (fun p c=>?_) ?_ (fun x=>?_)
 ·obtain⟨x,g⟩:=l p c;exact⟨_,g⟩
 ·refine List.pairwise_map.2 (h.nd.imp fun {a b} i e=>i (Int.ofNat_inj.1 e))
 ·rw[List.mem_map]
  constructor
  ·rintro⟨y,k,rfl⟩;exact(h.hs y).2 k
  ·intro g;have j:=g;rw[has_eq,List.any_eq_true]at g;obtain⟨p,c,n⟩:=g;obtain⟨y,k⟩:=l p c;have e:=WideAt.sameKey_eq n;rw[k]at e
   injection e with _ e
   subst e;exact⟨y,(h.hs y).1 j,rfl⟩
theorem DM.size{c:Value}{a:List Nat}{f:Nat->Value}{D:DataW Value}(h:DM c a f D):size D=a.length:=by
 have b:=h.keys.length_eq;obtain⟨d,rfl,-,-⟩:=h.im;rw[size_eq];unfold intKeys at b;rw[List.length_map,List.length_map]at b;exact b.symm
structure MpR (W:World) (mb:Nat) (z0:Value) (dom:List Nat) (f:Nat->Value):Prop where
 ow:∃m D,m<=100000+dom.length/\W.ownsMap Tryz.prog 3 RV mb m D/\DM z0 dom f D
theorem MpR.keep{W d:World}{c:Nat}{g:Value}{b:List Nat}{f:Nat->Value}(h:MpR W c g b f)(l:d.heap[c]?=W.heap[c]?):MpR d c g b f:=by
 obtain⟨m,D,n,⟨i,a,j,k⟩,hd⟩:=h.ow;exact⟨m,D,n,⟨i,a,l.trans j,k⟩,hd⟩
theorem MpR.lt{W:World}{b:Nat}{d:Value}{a:List Nat}{f:Nat->Value}(h:MpR W b d a f):b<W.heap.size:=by
 obtain⟨m,D,-,c,-⟩:=h.ow;exact c.lt
theorem MpR.below{W c:World}{b:Nat}{d:Value}{a:List Nat}{f:Nat->Value}(h:MpR W b d a f)(g:Below W.heap.size W c):MpR c b d a f:=h.keep (g.block b h.lt)
theorem MpR.ne{W:World}{d k T:Nat}{l:Value}{b:List Nat}{f:Nat->Value}(h:MpR W d l b f)(j:Loc W k T):k≠d:=fun e=>by
 obtain⟨m,D,-,⟨n,a,i,-⟩,-⟩:=h.ow;obtain⟨g,c⟩:=j;subst e;rw[i]at c
 cases c
theorem qcf(W:World)(a:Value):MpR (W.alloc (.map #[] 0)) W.heap.size a [] (fun _=>a) :=
 ⟨0,.map [],Nat.zero_le _,World.ownsMap_made W Tryz.prog 3 RV,quf a⟩
theorem MpR.look{W:World}{d t e:Nat}{c:Value}{b:List Nat}{f:Nat->Value}(h:MpR W d c b f)(j:Tryz.prog.underlying t=some (.map 3 e))(l:(zeroValue e).run Tryz.prog W=.ok c W)(x:Nat)(k:x<=1000):(Instr.lookup t (.map (some d)) (.int .i64 (x:Int)) false).run Tryz.prog W=.ok (f x) W:=by
 obtain⟨m,D,-,g,hd⟩:=h.ow;obtain⟨v,ps,i,a⟩:=g.lookup key3 j l (zd:=.held c) (zp:=[]) rfl (qm8 k);rw[hd.va x]at a;unfold RV at a
 injection a with a
 injection a with a _
 injection a with a
 rw[i,a]
theorem MpR.store{W:World}{j t e:Nat}{s:Value}{a:List Nat}{f:Nat->Value}(h:MpR W j s a f)(F:Tryz.prog.underlying t=some (.map 3 e))(x:Nat)(G:x<=1000)(hd:a.length<=1000)(v:Value):
  ∃c,(Instr.mapUpdate t (.map (some j)) (.int .i64 (x:Int)) v).run Tryz.prog W=.ok () c/\MpR c j s (domI a x) (fun y=>if y=x then v else f y)/\Kept (fun k=>k=j) W c:=by
 obtain⟨m,D,I,C,g⟩:=h.ow;have p:=g.size;obtain⟨q,b,u,z,H,r⟩:=C
 have A:q.size=a.length:=by
  rw[<-p,r,size_eq,length_sorted];simp
 have n:W.ownsMap Tryz.prog 3 RV j a.length D:=⟨q,b,u,z,by omega,r⟩
 obtain⟨c,E,o,i⟩:=n.update key3 F (by unfold maxLen;omega) (qm8 G) (d:=.held v) (ps:=[]) rfl
 exact⟨c,E,⟨_,_,by omega,o,g.put x v⟩,⟨i.os,i.tape,i.output,i.size,fun k B l=>i.block k B (fun e=>l (by injection e))⟩⟩
end Go.Proofs.YtbdogaaooeoccaaGreatDoor
