/- Texts that the proofs of the Auto statements stand on, part Prf09. -/
import Derived.Laws.Bits64b
import Derived.BigQuiet
import Derived.Test.YtbdogaaooeoccaaGreatDoorPrf08
set_option maxHeartbeats 16000000
set_option maxRecDepth 100000
namespace Go.Proofs.YtbdogaaooeoccaaGreatDoor
open Go.RowKit Go.Shelf
attribute [local go_sem] Oper.semAt_some
theorem qax{n:Nat}{d:0<n}{zs:List Nat}{a:List (Nat × Fin n)}{x:Nat × Fin n}(k:a.length<zs.length)(j:∀z∈zs,z<n)(h:a++[x]=bws n d zs (a.length+1)):a=bws n d zs a.length/\zs[zs.length - (a.length+1)]?=some x.2.val:=by
 rw[qfy]at h;obtain⟨f,g⟩:=List.append_inj h (by rw[qhr]);refine⟨f,?_⟩
 have i:x=bw n d zs a.length:=by simpa using g
 obtain⟨z,b⟩:∃z,zs[zs.length - (a.length+1)]?=some z:=⟨zs[zs.length - (a.length+1)]'(by omega),List.getElem?_eq_getElem _⟩
 have c:=j z (List.mem_of_getElem? b);rw[i];unfold bw
 have e:zs.length - 1 - a.length=zs.length - (a.length+1):=by omega
 simp only[e,b,Option.getD_some,Nat.mod_eq_of_lt c]
def LkW (W5:World) (b4 fb:Nat) (p0:FP) (V:World) (p':FP):Prop:=Kept (fun k=>FK fb p0 k\/k=b4) W5 V/\∀k,FK fb p' k->FK fb p0 k\/W5.heap.size<=k
def LI (w W5:World) (b4 fb n:Nat) (hn:0<n) (p0:FP) (E:List Bool) (S:Sp) (x:Nat) (r:SR) (WL:List (List Nat)) (pre:List (Nat × Fin n)) (V:World):Prop :=
 ∃(p':FP) (WL':List (List Nat)) (q:Nat),p'.eb=p0.eb/\FM V w.heap.size fb p' n S.tk E WL'/\LkW W5 b4 fb p0 V p'/\V.heap[b4]?=some (.cells #[.int .i64 (q:Int)] 3 (0,0))/\q<WL'.length/\Ins WL'/\2 * n<=WL'.length/\WL'.length<=WL.length+pre.length/\(tot WL'<=tot WL+3 * pre.length/\(pre=bws n hn r.r pre.length->FB S n x r.r WL WL' (r.r.length - pre.length) q))
def LM (w W5:World) (b4 fb n:Nat) (hn:0<n) (p0:FP) (E:List Bool) (S:Sp) (x:Nat) (r:SR) (WL:List (List Nat)) (pre:List (Nat × Fin n)) (xx:Nat × Fin n) (V:World):Prop :=
 ∃(p':FP) (WL':List (List Nat)) (q:Nat),p'.eb=p0.eb/\FM V w.heap.size fb p' n S.tk E WL'/\LkW W5 b4 fb p0 V p'/\V.heap[b4]?=some (.cells #[.int .i64 (q:Int)] 3 (0,0))/\q<WL'.length/\Ins WL'/\2 * n<=WL'.length/\WL'.length<=WL.length+pre.length/\(tot WL'<=tot WL+3 * pre.length+1/\(pre++[xx]=bws n hn r.r (pre.length+1)->FB1 S n x r.r WL WL' (r.r.length - (pre.length+1)) q xx.2.val))
theorem ql4{A B:World}{row:Option Nat}(f:A.grownBy B row)(h:∀r,row=some r->∃o:Obj,A.heap[r]?=some o/\o.isCells=false){k T:Nat}(g:Loc A k T):B.heap[k]?=A.heap[k]?:=by
 obtain⟨d,b⟩:=g;refine f.block k (Array.getElem?_eq_some_iff.1 b).1 (fun e=>?_);obtain⟨o,c,a⟩:=h k e.symm;rw[b]at c
 cases c
 cases a
theorem LI.own(w g:World)(o p n:Nat)(v:0<n)(z:FP)(E:List Bool)(S:Sp)(x:Nat)(r:SR)(m:List (List Nat)):OwnFrom g.heap.size (LI w g o p n v z E S x r m):=by
 rintro A V B row ⟨y,d,q,s,h,a,i,t⟩ b l
 have j:∀{k T:Nat},Loc V k T->B.heap[k]?=V.heap[k]?:=fun u=>ql4 b (fun r e=>(l r e).2) u
 refine⟨y,d,q,s,h.keep (fun k c=>?_),⟨⟨b.os.trans a.1.os,b.tape.trans a.1.tape,b.output.trans a.1.output,Nat.le_trans a.1.size b.size,fun k c f=>?_⟩,a.2⟩,by rw[j ⟨_,i⟩];exact i,t⟩
 ·rcases (h.lt c).2.2 with e | e | e | e <;> exact j e
 ·rw[<-a.1.block k c f];exact b.block k (Nat.lt_of_lt_of_le c a.1.size) (fun e=>by have:=(l k e.symm).1;omega)
theorem FV.others{V c:World}{B d n p:Nat}{g m:FP}{E:List Bool}{i:List (List Nat)}(h:FM V B d g n p E i)(v:FV V d g c m):KeepsOthers V c:=by
 refine⟨v.1.size,fun k o a l=>?_⟩;rw[v.1.block k (Array.getElem?_eq_some_iff.1 a).1 (fun e=>?_)]
 ·exact a
 ·have b:∀{T:Nat},Loc V k T->False:=fun⟨j,f⟩=>by
   rw[a]at f
   cases f
   cases l
  rcases (h.lt e).2.2 with e | e | e | e <;> exact b e
theorem LkW.out{b V:World}{d a m:Nat}{p c:FP}(h:LkW b d a p V c)(f:∀k,FK a p k->k<m){k:Nat}(g:m<=k)(i:k<b.heap.size):¬FK a c k:=fun e=>by
 rcases h.2 k e with e | e
 ·have:=f k e;omega
 ·omega
theorem LkW.move{c V b:World}{d a:Nat}{p g i:FP}(h:LkW c d a p V g)(v:FV V a g b i):LkW c d a p b i:=by
 refine⟨h.1.trans v.1 (fun k f e=>?_),fun k f=>?_⟩
 ·rcases h.2 k e with e | e
  ·exact .inl e
  ·omega
 ·rcases v.2 k f with e | e
  ·exact h.2 k e
  ·exact .inr (Nat.le_trans h.1.size e)
theorem LkW.store{b V:World}{a c:Nat}{p d:FP}(h:LkW b a c p V d)(u:Value):LkW b a c p (V.setCell ⟨a,0,none⟩ u) d:=⟨h.1.setCell ⟨a,0,none⟩ u (fun _=>.inr rfl),h.2⟩
theorem FM.store{V:World}{B b n f a:Nat}{c:FP}{E:List Bool}{d:List (List Nat)}(h:FM V B b c n f E d)(g:¬FK b c a)(u:Value):FM (V.setCell ⟨a,0,none⟩ u) B b c n f E d:=h.keep (fun k i=>Below.heap_setCell _ _ _ _ (fun e=>by
 have e:k=a:=e;subst e
 exact g i))
theorem KpB.move{V d:World}{w:World}{b n k a:Nat}{c j:FP}{E:List Bool}{f:List (List Nat)}(h:FM V w.heap.size b c n k E f)(g:w.heap.size<=V.heap.size)(v:FV V b c d j)(i:¬FK b c a):KpB w.heap.size a V d:=⟨FV.below h g v,fun cs T l e=>by rw[v.1.block a (Array.getElem?_eq_some_iff.1 e).1 i];exact e⟩
theorem KpB.store{V w:World}{a b:Nat}(c:w.heap.size<=a)(d:b≠a)(u:Value):KpB w.heap.size b V (V.setCell ⟨a,0,none⟩ u):=⟨(Below.refl _ V).setCell (p:=⟨a,0,none⟩) c _,fun cs T f e=>by rw[Below.heap_setCell _ _ _ _ d];exact e⟩
theorem qcq{V:World}{a:Nat}{q:Int}(h:V.heap[a]?=some (.cells #[.int .i64 q] 3 (0,0)))(z:Int):(V.setCell ⟨a,0,none⟩ (.int .i64 z)).heap[a]?=some (.cells #[.int .i64 z] 3 (0,0)):=by
 rw[setCell_eq_setRow V a 0 _ 3 (0,0) _ h];exact setRow_heap _ _ _ _ 3 _ h
theorem qnw(W:World)(a:Option Addr)(n c:Nat):Calls Tryz.prog 110 #[.slice a n c] W fun e b=>e=.returned (.func (.func 130) #[] #[.pointer (some ⟨W.heap.size,0,none⟩)])/\b=W.alloc (.cells #[.slice a n c] 28):=by
 go_enter Tryz.func110,Tryz.ntmps110;go_wp2_with fail;go_ret;exact⟨rfl,rfl⟩
theorem qfz(w W:World)(f n:Nat)(G:0<n)(f2:n<=1000)(p:FP)(E:List Bool)(S:Sp)(R:List (List Nat))(h:FM W w.heap.size f p n S.tk E R)(hb:Below w.heap.size w W)(hE:∀z,isF E z=true↔Nul S z)(r:SR)(x i:Nat)(t:Option Addr)(v:Nat)(h0:0<i)(hi:S.rs[i]?=some r)(hk:Rlk S n r x)(P:Row w 1 t r.r.length v (natC r.r))(hI:Ins R)(hM:∃M,Mng S n M/\yf R M)(hn:2 * n<=R.length)(f3:R.length<=50000)(b8:tot R<=90000):
  Calls Tryz.prog 82 #[.pointer (some ⟨f,0,none⟩),.agg #[.int .i64 r.l,.slice t r.r.length v,.int .i64 r.lv,.int .i64 r.a]] W fun e W'=>e=.returned (.tuple #[])/\∃p',p'.eb=p.eb/\∃b0,FM W' w.heap.size f p' n S.tk E b0/\FV W f p W' p'/\∃q,FB S n x r.r R b0 0 q:=by
 have f4:=zk P;have hl:=hk.l;have f5:=hk.xn
 obtain⟨s,HN⟩:∃s,Hid (r.r.length=s):=⟨_,rfl⟩
 have g0:s<=100:=by rw[<-HN.out];exact hk.ln
 rw[HN.out]at f4 ⊢;rw[hl];have Z:Below W.heap.size W ((((W.alloc (.cells #[.pointer (some ⟨f,0,none⟩)] 98)).alloc (.cells #[.int .i64 (x:Int),.slice t s v,.int .i64 r.lv,.int .i64 r.a] 56)).alloc (.cells #[.int .i64 ((n:Int)+(x:Int))] 3)).alloc (.cells #[.slice t s v] 28)):=qd (qb _ _) (qd (qb _ _) (qd (qb _ _) (qb _ _)));have s1:(W.alloc (.cells #[.pointer (some ⟨f,0,none⟩)] 98)).heap.size=W.heap.size+1:=qz _ _
 have s2:((W.alloc (.cells #[.pointer (some ⟨f,0,none⟩)] 98)).alloc (.cells #[.int .i64 (x:Int),.slice t s v,.int .i64 r.lv,.int .i64 r.a] 56)).heap.size=W.heap.size+2:=by rw[qz,s1]
 have s3:(((W.alloc (.cells #[.pointer (some ⟨f,0,none⟩)] 98)).alloc (.cells #[.int .i64 (x:Int),.slice t s v,.int .i64 r.lv,.int .i64 r.a] 56)).alloc (.cells #[.int .i64 ((n:Int)+(x:Int))] 3)).heap.size=W.heap.size+3:=by rw[qz,s2]
 have s4:((((W.alloc (.cells #[.pointer (some ⟨f,0,none⟩)] 98)).alloc (.cells #[.int .i64 (x:Int),.slice t s v,.int .i64 r.lv,.int .i64 r.a] 56)).alloc (.cells #[.int .i64 ((n:Int)+(x:Int))] 3)).alloc (.cells #[.slice t s v] 28)).heap.size=W.heap.size+4:=by rw[qz,s3]
 have k2:((((W.alloc (.cells #[.pointer (some ⟨f,0,none⟩)] 98)).alloc (.cells #[.int .i64 (x:Int),.slice t s v,.int .i64 r.lv,.int .i64 r.a] 56)).alloc (.cells #[.int .i64 ((n:Int)+(x:Int))] 3)).alloc (.cells #[.slice t s v] 28)).heap[W.heap.size]?=some (.cells #[.pointer (some ⟨f,0,none⟩)] 98 (0,0)):=qf (qd (qb _ _) (qd (qb _ _) (qb _ _))) (heap_alloc_new _ _)
 have k3:((((W.alloc (.cells #[.pointer (some ⟨f,0,none⟩)] 98)).alloc (.cells #[.int .i64 (x:Int),.slice t s v,.int .i64 r.lv,.int .i64 r.a] 56)).alloc (.cells #[.int .i64 ((n:Int)+(x:Int))] 3)).alloc (.cells #[.slice t s v] 28)).heap[W.heap.size+1]?=some (.cells #[.int .i64 (x:Int),.slice t s v,.int .i64 r.lv,.int .i64 r.a] 56 (0,0)):=by
  have:=heap_alloc_new (W.alloc (.cells #[.pointer (some ⟨f,0,none⟩)] 98)) (.cells #[.int .i64 (x:Int),.slice t s v,.int .i64 r.lv,.int .i64 r.a] 56);rw[s1]at this;exact qf (qd (qb _ _) (qb _ _)) this
 have k4:((((W.alloc (.cells #[.pointer (some ⟨f,0,none⟩)] 98)).alloc (.cells #[.int .i64 (x:Int),.slice t s v,.int .i64 r.lv,.int .i64 r.a] 56)).alloc (.cells #[.int .i64 ((n:Int)+(x:Int))] 3)).alloc (.cells #[.slice t s v] 28)).heap[W.heap.size+2]?=some (.cells #[.int .i64 ((n:Int)+(x:Int))] 3 (0,0)):=by
  have:=heap_alloc_new ((W.alloc (.cells #[.pointer (some ⟨f,0,none⟩)] 98)).alloc (.cells #[.int .i64 (x:Int),.slice t s v,.int .i64 r.lv,.int .i64 r.a] 56)) (.cells #[.int .i64 ((n:Int)+(x:Int))] 3);rw[s2]at this;exact qf (qb _ _) this
 have k5:((((W.alloc (.cells #[.pointer (some ⟨f,0,none⟩)] 98)).alloc (.cells #[.int .i64 (x:Int),.slice t s v,.int .i64 r.lv,.int .i64 r.a] 56)).alloc (.cells #[.int .i64 ((n:Int)+(x:Int))] 3)).alloc (.cells #[.slice t s v] 28)).heap[W.heap.size+3]?=some (.cells #[.slice t s v] 28 (0,0)):=by
  have:=heap_alloc_new (((W.alloc (.cells #[.pointer (some ⟨f,0,none⟩)] 98)).alloc (.cells #[.int .i64 (x:Int),.slice t s v,.int .i64 r.lv,.int .i64 r.a] 56)).alloc (.cells #[.int .i64 ((n:Int)+(x:Int))] 3)) (.cells #[.slice t s v] 28);rw[s3]at this;exact this
 have h5:=h.below Z;refine(callsIn_wide (n:=3)).1 ?_;refine callsIn_of_wp_marks Tryz.func82 rfl trivial ?_ rfl;simp only[Tryz.ntmps82,List.size_toArray,List.length_cons,List.length_nil,Nat.reduceAdd,Nat.reduceSub,Array.replicate_succ,Array.replicate_zero,List.push_toArray,List.append_toArray,List.nil_append,List.cons_append];have e1:((W.alloc (.cells #[.pointer (some ⟨f,0,none⟩)] 98)).alloc (.cells #[.int .i64 (x:Int),.slice t s v,.int .i64 r.lv,.int .i64 r.a] 56)).cell? ⟨f,1,none⟩=some (.slice (some ⟨p.eb,0,none⟩) n n):=(h.below (qd (qb _ _) (qb _ _))).c1
 gi_wp2_with (first
  | (refine⟨trivial,?_⟩;gi_at_call 85;refine(callsIn_wide.2 (y9 ((W.alloc (.cells #[.pointer (some ⟨f,0,none⟩)] 98)).alloc (.cells #[.int .i64 (x:Int),.slice t s v,.int .i64 r.lv,.int .i64 r.a] 56)) f n n x _ e1 f2 f5)).mono ?_;rintro e w' ⟨rfl,rfl⟩)
  | (refine⟨trivial,?_⟩;gi_at_call 110;refine(callsIn_wide.2 (qnw (((W.alloc (.cells #[.pointer (some ⟨f,0,none⟩)] 98)).alloc (.cells #[.int .i64 (x:Int),.slice t s v,.int .i64 r.lv,.int .i64 r.a] 56)).alloc (.cells #[.int .i64 ((n:Int)+(x:Int))] 3)) t s v)).mono ?_;rintro e w' ⟨rfl,rfl⟩))
 obtain⟨J,d8⟩:∃J,((((W.alloc (.cells #[.pointer (some ⟨f,0,none⟩)] 98)).alloc (.cells #[.int .i64 (x:Int),.slice t s v,.int .i64 r.lv,.int .i64 r.a] 56)).alloc (.cells #[.int .i64 ((n:Int)+(x:Int))] 3)).alloc (.cells #[.slice t s v] 28))=J:=⟨_,rfl⟩
 rw[d8]at Z s4 k2 k3 k4 k5 h5 ⊢
 have HP:Hid ((∀k,FK f p k->k<W.heap.size)/\w.heap.size<=W.heap.size):=⟨fun k hk=>(h.lt hk).2.1,hb.size⟩
 clear d8 s1 s2 s3 e1
 obtain⟨g,d9⟩:∃g,W.heap.size=g:=⟨_,rfl⟩
 have I:=hid d9;have a2:=qd hb Z;rw[d9]at s4 k2 k3 k4 k5 ⊢
 have a7:Hid (∀(V:World) (p':FP),LkW J (g+2) f p V p'->V.cell? ⟨g,0,none⟩=some (.pointer (some ⟨f,0,none⟩))/\¬FK f p' (g+2)/\¬FK f p' (g+2+1)/\Below w.heap.size w V):=fun V p' hV=>by
  have f8:V.heap[g]?=some (.cells #[.pointer (some ⟨f,0,none⟩)] 98 (0,0)):=by
   rw[hV.1.block g (by omega) (fun e=>e.elim (fun e=>by have:=HP.out.1 _ e;rw[I.out]at this;omega) (fun e=>by omega))]
   exact k2
  refine⟨by rw[qe f8];rfl,hV.out HP.out.1 (by rw[I.out];omega) (by omega),hV.out HP.out.1 (by rw[I.out];omega) (by omega),a2.trans (hV.1.below a2.size (fun k hk e=>e.elim (fun e=>?_) (fun e=>?_)))⟩
  ·have:=(h.lt e).1;omega
  ·have:=HP.out.2;rw[I.out]at this;omega
 have d5:Hid (∀V,Below w.heap.size J V->Row V 1 t s v (natC r.r)):=fun V hV=>by
  have h6:=a2.trans hV;rw[<-HN.out];exact⟨P.len,P.le,P.max,P.lies.imp id fun⟨b,o,he,hc⟩=>⟨b,o,he,fun j u hu=>qt h6 (hc j u hu)⟩⟩
 have c8:Hid (LI w J (g+2) f n G p E S x r R [] J):=⟨p,R,n+x,rfl,h5,⟨Kept.refl _ _,fun _ e=>.inl e⟩,k4,by omega,hI,hn,by simp,by simp,fun _=>FB.begin hI hM f5 hn⟩
 have HE:=hid4 hE hi hk h0;have HZ:=hid3 hn f3 b8
 have c3:∀z∈r.r,z<n:=fun z hz=>(hk.sy z hz).1
 have Q:=hid c3
 refine wpIn_rangeFunc_ownG rfl (by omega) (gf:=130) (lb:=#[.pointer (some ⟨g+2+1,0,none⟩)]) rfl trivial (enters_of Tryz.func130 (by kernel_rfl) rfl)
  (qph Fence.wide _ trivial rfl (by omega) (g+2+1) w.heap.size s v n G t r.r HN.out (by omega) f4 c3 J a2.size k5 d5.out) qcp (quv a2.size) (Below.refl _ _) (fun _=>rfl)
  (LI w J (g+2) f n G p E S x r R) (fun _ _ _=>False) (LI.own w J (g+2) f n G p E S x r R) (fun _ _ _ _ _ hs _ _=>hs) c8.out
  (fun xx=>{ tmps:=#[.pointer (some ⟨f,0,none⟩),.agg #[.int .i64 (x:Int),.slice t s v,.int .i64 r.lv,.int .i64 r.a],.pointer (some ⟨g,0,none⟩),.pointer (some ⟨g+1,0,none⟩),.pointer (some ⟨g+2,0,none⟩),undef,.int .i64 (xx.2.val:Int),.pointer (some ⟨f,0,none⟩),.pointer (some ⟨g+1,0,none⟩),.int .i64 (x:Int),.int .i64 ((n:Int)+(x:Int)),.pointer (some ⟨g+1,1,none⟩),.slice t s v,.func (.func 130) #[] #[.pointer (some ⟨g+2+1,0,none⟩)],.int .i64 (xx.1:Int),.int .i64 (xx.2.val:Int),undef,undef,undef,undef,undef,undef,undef,undef,undef,undef,undef,undef,undef,undef,undef,undef,undef,undef,undef,undef,undef],defers:=[] }) ?assign ?body ?done ?stop
 case assign =>
  intro l xx V K hK;unfold encB
  gi_wp2
  exact hK
 case body =>
  clear h hb hE hi hk h0 P hI hM hn f3 b8 Z k2 k3 k4 k5 h5 c8 c3 d5;rintro l F ⟨ix,⟨y,hy⟩⟩ V b5 O;have d3:=hid b5;obtain⟨p1,a3,q,h1,h2,h3,h4,h5,h6,h7,h8,h9,a0⟩:=b5;obtain⟨c2,c5,c6,b6⟩:=a7.out V p1 h3;have f0:=h2.c0;have f1:=h2.c1
  have c4:V.cell? ⟨g+2,0,none⟩=some (.int .i64 (q:Int)):=by rw[qe h4];rfl
  by_cases ht:S.tk<y
  ·have hd:decide ((S.tk:Int)<(y:Int)/\(y:Int)<(n:Int))=true:=by rw[decide_eq_true_eq];omega
   obtain⟨m,hm⟩:∃m,a3[n+y]?=some m:=⟨a3[n+y]'(by omega),List.getElem?_eq_getElem _⟩
   have b9:=h2.below (qo V);have c9:=hid (qdl V.drew w.heap.size f n S.tk p1 E a3 b9 b6.size (n+y) q m hm (by have:=qge hm;have:=HZ.out.2.2;omega))
   have c7:=hid (y9 V.drew f n n y _ b9.c1 f2 hy)
   have f6:Hid (∀U H,H.eb=p1.eb->FM U w.heap.size f H n S.tk E (a3.set (n+y) (m++[q]))->FV V.drew f p1 U H->LM w J (g+2) f n G p E S x r R F (ix,⟨y,hy⟩) U/\KeepsOthers V U/\KpB w.heap.size (g+2+1) V U):=fun U H t1 t2 t3=>by
    have b7:FV V f p1 U H:=⟨(show Kept (FK f p1) V V.drew from(Kept.refl _ V).drew).trans t3.1 (fun _ _ e=>e),t3.2⟩
    refine⟨⟨H,_,q,t1.trans h1,t2,h3.move b7,by rw[b7.1.block _ (Array.getElem?_eq_some_iff.1 h4).1 c5];exact h4,by rw[List.length_set];exact h5,qe0 h6 hm h5,by rw[List.length_set];exact h7,by rw[List.length_set];exact h8,by rw[qcy hm];omega,fun d=>?_⟩,FV.others h2 b7,KpB.move h2 b6.size b7 c6⟩
    have B:=qax (by rw[HN.out];exact O) Q.out d
    have Y:=a0 B.1
    have e1:r.r.length - F.length=r.r.length - (F.length+1)+1:=by have:=HN.out;omega
    rw[e1]at Y;exact Y.lay HE.out.2.2.2 HE.out.2.1 HE.out.2.2.1.l B.2 ht hy hm
   have i6:Tryz.prog.follows .mixedOrders=true:=by kernel_rfl
   clear h1 h2 h3 h4 h5 h6 h7 h8 h9 a0 hm d3 b9 c5 c6 b6
   gi_wp2_with (refine⟨trivial,?_⟩;gi_at_call 83;refine(CallsIn.inRound l (callsIn_wide.2 (j4 V f S.tk n n (some ⟨p1.eb,0,none⟩) f0 f1 (y:Int)))).mono ?_;rintro e w1 ⟨rfl,a1⟩;rw[a1];clear a1 w1;rw[hd];clear hd)
   clear f0 f1
   gi_region_with_o (first
    | (refine⟨trivial,?_⟩;gi_at_call 85;refine(CallsIn.inRound l (callsIn_wide.2 c7.out)).mono ?_;rintro e w2 ⟨rfl,rfl⟩)
    | (refine⟨trivial,?_⟩;gi_at_call 84;refine(CallsIn.inRound l (callsIn_wide.2 c9.out)).mono ?_;rintro e U ⟨rfl,H,t1,t2,t3⟩;obtain⟨d6,d7⟩:=f6.out U H t1 t2 t3;have HM:Hid (LM w J (g+2) f n G p E S x r R F (ix,⟨y,hy⟩) U):=d6;have HO:Hid (KeepsOthers _ U/\KpB w.heap.size (g+2+1) _ U):=d7;clear d6 d7 t1 t2 t3))
   all_goals
    obtain⟨H,A,q2,g1,N,g3,g4,g5,g6,g7,g8,g9,X⟩:=HM.out;obtain⟨d2,a5,b4,a4⟩:=a7.out U H g3;have d0:=N.c0;have d1:=N.c1
    have d4:U.cell? ⟨g+2,0,none⟩=some (.int .i64 (q2:Int)):=by rw[qe g4];rfl
    have e4:=qj g4 0;have dy:=N.ce hy
    have i0:(y:Int)<(n:Int):=by omega
    cases hf:isF E y
    ·rw[hf]at dy
     have HF:Hid (KeepsFrom J.heap.size V (U.setCell ⟨g+2,0,none⟩ (.int .i64 (y:Int)))/\KpB w.heap.size (g+2+1) V (U.setCell ⟨g+2,0,none⟩ (.int .i64 (y:Int)))/\LI w J (g+2) f n G p E S x r R (F++[(ix,⟨y,hy⟩)]) (U.setCell ⟨g+2,0,none⟩ (.int .i64 (y:Int)))):=by
      refine⟨(HO.out.1.trans (KeepsOthers.setCell _ _ _)).from _,qcp HO.out.2 (KpB.store (by rw[<-I.out];have:=HP.out.2;omega) (by omega) _),H,A,y,g1,N.store a5 _,g3.store _,qcq g4 _,by omega,g6,g7,by rw[List.length_append];simp;omega,by rw[List.length_append];simp;omega,fun d=>?_⟩
      rw[List.length_append]at d ⊢;simp only[List.length_singleton]at d ⊢;have B:=qax (by rw[HN.out];exact O) Q.out d
      exact(X d).sym (fun e=>by rw[<-HE.out.1,hf]at e;cases e) hy (HE.out.2.2.1.sy y (List.mem_of_getElem? B.2)).2 (by have:=HZ.out.1;omega)
     clear g1 N g3 g4 g5 g6 g7 g8 g9 X HM HO hf
     gi_wp2
     exact HF.out
    ·rw[hf]at dy;have a8:=hid (qfg U w.heap.size f n S.tk H E A N a4.size y q2 (by have:=HZ.out.2.1;omega))
     have HU:Hid (FM U w.heap.size f H n S.tk E A/\∀C p3 (L:Nat),p3.eb=H.eb->FM C w.heap.size f p3 n S.tk E (A++[[y,q2]])->FV U f H C p3->L=A.length->C.cell? ⟨g+2,0,none⟩=some (.int .i64 (q2:Int))/\C.frozen? ⟨g+2,0,none⟩=false/\KeepsFrom J.heap.size V (C.setCell ⟨g+2,0,none⟩ (.int .i64 (L:Int)))/\KpB w.heap.size (g+2+1) V (C.setCell ⟨g+2,0,none⟩ (.int .i64 (L:Int)))/\LI w J (g+2) f n G p E S x r R (F++[(ix,⟨y,hy⟩)]) (C.setCell ⟨g+2,0,none⟩ (.int .i64 (L:Int)))):=by
      refine⟨N,fun C p3 L t1 t2 t3 t4=>?_⟩;subst t4
      have t4:C.heap[g+2]?=some (.cells #[.int .i64 (q2:Int)] 3 (0,0)):=by rw[t3.1.block _ (Array.getElem?_eq_some_iff.1 g4).1 a5];exact g4
      have t5:=g3.move t3;have b3:=(a7.out C p3 t5).2.1;refine⟨by rw[qe t4];rfl,qj t4 0,((HO.out.1.trans (FV.others N t3)).trans (KeepsOthers.setCell _ _ _)).from _,qcp HO.out.2 (qcp (KpB.move N a4.size t3 b4) (KpB.store (by rw[<-I.out];have:=HP.out.2;omega) (by omega) _)),p3,A++[[y,q2]],A.length,t1.trans g1,t2.store b3 _,t5.store _,qcq t4 _,by rw[List.length_append];simp,qfp g6 (fun z hz=>?_),by rw[List.length_append];omega,by rw[List.length_append,List.length_append];simp;omega,by rw[qfo,List.length_append];simp;omega,fun d=>?_⟩
      ·rcases List.mem_cons.1 hz with rfl | hz
       ·omega
       ·rw[List.mem_singleton]at hz;subst hz;exact g5
      ·rw[List.length_append]at d ⊢;simp only[List.length_singleton]at d ⊢;have B:=qax (by rw[HN.out];exact O) Q.out d
       exact(X d).fork ((HE.out.1 y).1 hf) hy (HE.out.2.2.1.sy y (List.mem_of_getElem? B.2)).2 HZ.out.1
     clear g1 N g3 g4 g5 g6 g7 g8 g9 X HM HO hf a5 b4 a4
     gi_wp2_with (refine⟨trivial,?_⟩;gi_at_call 111;refine(CallsIn.inRound l (callsIn_wide.2 a8.out)).mono ?_;rintro e C ⟨rfl,p3,t1,t2,t3⟩;obtain⟨v4,z4,b1⟩:=HU.out.2 C p3 _ t1 t2 t3 rfl)
     exact b1
  ·have hd:decide ((S.tk:Int)<(y:Int)/\(y:Int)<(n:Int))=false:=by rw[decide_eq_false_iff_not];omega
   have HM:Hid (LM w J (g+2) f n G p E S x r R F (ix,⟨y,hy⟩) V):=by
    refine⟨p1,a3,q,h1,h2,h3,h4,h5,h6,h7,h8,by omega,fun d=>?_⟩;have B:=qax (by rw[HN.out];exact O) Q.out d
    have Y:=a0 B.1
    have e1:r.r.length - F.length=r.r.length - (F.length+1)+1:=by have:=HN.out;omega
    rw[e1]at Y;exact Y.skip B.2 ht
   have HO:Hid (KeepsOthers V V/\KpB w.heap.size (g+2+1) V V):=⟨KeepsOthers.refl _,KpB.refl _ _ _⟩
   have a9:Hid (Calls Tryz.prog 83 #[.pointer (some ⟨f,0,none⟩),.int .i64 (y:Int)] V fun e w'=>e=.returned (.bool false)/\w'=V):=by
    rw[<-hd];exact j4 V f S.tk n n (some ⟨p1.eb,0,none⟩) f0 f1 (y:Int)
   clear h1 h2 h3 h4 h5 h6 h7 h8 h9 a0 d3 c5 c6 b6 f0 f1 hd c4 c2;obtain⟨H,A,q2,g1,N,g3,g4,g5,g6,g7,g8,g9,X⟩:=HM.out;obtain⟨d2,a5,b4,a4⟩:=a7.out V H g3;have d0:=N.c0;have d1:=N.c1
   have d4:V.cell? ⟨g+2,0,none⟩=some (.int .i64 (q2:Int)):=by rw[qe g4];rfl
   have e4:=qj g4 0;have dy:=N.ce hy
   have i0:(y:Int)<(n:Int):=by omega
   cases hf:isF E y
   ·rw[hf]at dy
    have HF:Hid (KeepsFrom J.heap.size V (V.setCell ⟨g+2,0,none⟩ (.int .i64 (y:Int)))/\KpB w.heap.size (g+2+1) V (V.setCell ⟨g+2,0,none⟩ (.int .i64 (y:Int)))/\LI w J (g+2) f n G p E S x r R (F++[(ix,⟨y,hy⟩)]) (V.setCell ⟨g+2,0,none⟩ (.int .i64 (y:Int)))):=by
     refine⟨(HO.out.1.trans (KeepsOthers.setCell _ _ _)).from _,qcp HO.out.2 (KpB.store (by rw[<-I.out];have:=HP.out.2;omega) (by omega) _),H,A,y,g1,N.store a5 _,g3.store _,qcq g4 _,by omega,g6,g7,by rw[List.length_append];simp;omega,by rw[List.length_append];simp;omega,fun d=>?_⟩
     rw[List.length_append]at d ⊢;simp only[List.length_singleton]at d ⊢;have B:=qax (by rw[HN.out];exact O) Q.out d
     exact(X d).sym (fun e=>by rw[<-HE.out.1,hf]at e;cases e) hy (HE.out.2.2.1.sy y (List.mem_of_getElem? B.2)).2 (by have:=HZ.out.1;omega)
    clear g1 N g3 g4 g5 g6 g7 g8 g9 X HM HO hf
    gi_wp2_with (refine⟨trivial,?_⟩;gi_at_call 83;refine(CallsIn.inRound l (callsIn_wide.2 a9.out)).mono ?_;rintro e w1 ⟨rfl,a1⟩;rw[a1];clear a1 w1)
    exact HF.out
   ·rw[hf]at dy;have a8:=hid (qfg V w.heap.size f n S.tk H E A N a4.size y q2 (by have:=HZ.out.2.1;omega))
    have HU:Hid (FM V w.heap.size f H n S.tk E A/\∀C p3 (L:Nat),p3.eb=H.eb->FM C w.heap.size f p3 n S.tk E (A++[[y,q2]])->FV V f H C p3->L=A.length->C.cell? ⟨g+2,0,none⟩=some (.int .i64 (q2:Int))/\C.frozen? ⟨g+2,0,none⟩=false/\KeepsFrom J.heap.size V (C.setCell ⟨g+2,0,none⟩ (.int .i64 (L:Int)))/\KpB w.heap.size (g+2+1) V (C.setCell ⟨g+2,0,none⟩ (.int .i64 (L:Int)))/\LI w J (g+2) f n G p E S x r R (F++[(ix,⟨y,hy⟩)]) (C.setCell ⟨g+2,0,none⟩ (.int .i64 (L:Int)))):=by
     refine⟨N,fun C p3 L t1 t2 t3 t4=>?_⟩;subst t4
     have t4:C.heap[g+2]?=some (.cells #[.int .i64 (q2:Int)] 3 (0,0)):=by rw[t3.1.block _ (Array.getElem?_eq_some_iff.1 g4).1 a5];exact g4
     have t5:=g3.move t3;have b3:=(a7.out C p3 t5).2.1;refine⟨by rw[qe t4];rfl,qj t4 0,((HO.out.1.trans (FV.others N t3)).trans (KeepsOthers.setCell _ _ _)).from _,qcp HO.out.2 (qcp (KpB.move N a4.size t3 b4) (KpB.store (by rw[<-I.out];have:=HP.out.2;omega) (by omega) _)),p3,A++[[y,q2]],A.length,t1.trans g1,t2.store b3 _,t5.store _,qcq t4 _,by rw[List.length_append];simp,qfp g6 (fun z hz=>?_),by rw[List.length_append];omega,by rw[List.length_append,List.length_append];simp;omega,by rw[qfo,List.length_append];simp;omega,fun d=>?_⟩
     ·rcases List.mem_cons.1 hz with rfl | hz
      ·omega
      ·rw[List.mem_singleton]at hz;subst hz;exact g5
     ·rw[List.length_append]at d ⊢;simp only[List.length_singleton]at d ⊢;have B:=qax (by rw[HN.out];exact O) Q.out d
      exact(X d).fork ((HE.out.1 y).1 hf) hy (HE.out.2.2.1.sy y (List.mem_of_getElem? B.2)).2 HZ.out.1
    clear g1 N g3 g4 g5 g6 g7 g8 g9 X HM HO hf a5 b4 a4
    gi_wp2_with (first | (refine⟨trivial,?_⟩;gi_at_call 83;refine(CallsIn.inRound l (callsIn_wide.2 a9.out)).mono ?_;rintro e w1 ⟨rfl,a1⟩;rw[a1];clear a1 w1) | (refine⟨trivial,?_⟩;gi_at_call 111;refine(CallsIn.inRound l (callsIn_wide.2 a8.out)).mono ?_;rintro e C ⟨rfl,p3,t1,t2,t3⟩;obtain⟨v4,z4,b1⟩:=HU.out.2 C p3 _ t1 t2 t3 rfl))
    exact b1
 case done =>
  rintro D ys V hD rfl b5 hK;obtain⟨p1,a3,q,h1,h2,h3,h4,f7,h6,h7,h8,h9,a0⟩:=b5;rw[qhr]at a0;have Y:=a0 rfl;rw[HN.out,Nat.sub_self]at Y;have a6:Below J.heap.size V (V.putObj D (.deferred none)):=(Below.refl _ V).grown (grownBy_putObj' V D _) (by have:=h3.1.size;exact this) (fun k e=>by cases e;exact hD)
  have HF:Hid (∃p',p'.eb=p.eb/\∃b0,FM (V.putObj D (.deferred none)) w.heap.size f p' n S.tk E b0/\FV W f p (V.putObj D (.deferred none)) p'/\∃q,FB S n x r.r R b0 0 q):=by
   refine⟨p1,h1,a3,h2.keep (fun k hk=>World.putObj_heap_other (fun e=>?_)),⟨⟨a6.os.trans (h3.1.os.trans Z.os),a6.tape.trans (h3.1.tape.trans Z.tape),a6.output.trans (h3.1.output.trans Z.output),Nat.le_trans Z.size (Nat.le_trans h3.1.size a6.size),fun k hk f9=>?_⟩,fun k hk=>?_⟩,q,Y⟩
   ·have i1:∀{T:Nat},Loc V k T->False:=fun⟨i2,hc⟩=>by
     rw[e,hK]at hc
     cases hc
    rcases (h2.lt hk).2.2 with e | e | e | e <;> exact i1 e
   ·have i5:k<g:=by rw[<-I.out];exact hk
    rw[a6.block k (by omega),h3.1.block k (by omega) (fun e=>e.elim f9 (fun e=>by omega)),Z.block k hk]
   ·rcases h3.2 k hk with e | e
    ·exact .inl e
    ·exact .inr (by rw[I.out];omega)
  clear h1 h2 h3 h4 f7 h6 h7 h8 h9 a0 Y a6
  gi_wp2
  refine⟨by simp,.inl ⟨_,_,rfl,run_takeDeferred hK,?_⟩⟩;exact⟨_,results_none rfl _ _ _,rfl,HF.out⟩
 case stop =>
  rintro D c F V _ _ hf _;exact hf.elim
end Go.Proofs.YtbdogaaooeoccaaGreatDoor
namespace Go.Proofs.YtbdogaaooeoccaaGreatDoor
open Go.RowKit
def zh:List ByteArray->ByteArray->Option Nat
 | [],_=>none
 | x :: r,s=>if x=s then some 0 else (zh r s).map (·+1)
theorem qdm{s:ByteArray}:∀{l:List ByteArray} {k:Nat} {x:ByteArray},(∀(i:Nat) (y:ByteArray),i<k->l[i]?=some y->y≠s)->l[k]?=some x->x=s->zh l s=some k
 | [],k,x,_,h,_=>by cases h
 | u :: r,0,x,_,h,he=>by
  cases h
  unfold zh;rw[if_pos he]
 | u :: r,k+1,x,hb,h,he=>by
  unfold zh;rw[if_neg (hb 0 u (by omega) rfl),qdm (k:=k) (x:=x) (fun i y b a=>hb (i+1) y (by omega) (by simpa using a)) (by simpa using h) he];rfl
theorem qbu{s:ByteArray}:∀{l:List ByteArray},(∀(i:Nat) (y:ByteArray),l[i]?=some y->y≠s)->zh l s=none
 | [],_=>rfl
 | u :: r,hb=>by
  unfold zh;rw[if_neg (hb 0 u rfl),qbu (l:=r) (fun i y a=>hb (i+1) y (by simpa using a))];rfl
theorem ve{s:ByteArray}:∀{l:List ByteArray},(zh l s).isSome=true↔s∈l
 | []=>by simp[zh]
 | u :: r=>by
  unfold zh
  split
  ·rename_i h;subst h;simp
  ·rename_i h;rw[Option.isSome_map,ve]
   constructor
   ·intro a;exact List.mem_cons_of_mem _ a
   ·intro a
    rcases List.mem_cons.1 a with h2 | h2
    ·exact absurd h2.symm h
    ·exact h2
theorem qic{s:ByteArray}:∀{l:List ByteArray} {k:Nat},zh l s=some k->l[k]?=some s
 | [],k,h=>by cases h
 | u :: r,k,h=>by
  unfold zh at h
  split at h
  ·rename_i e;cases h;subst e;rfl
  ·obtain⟨j,a,rfl⟩:=Option.map_eq_some_iff.1 h
   simpa using qic a
theorem qf0{s:ByteArray}{l:List ByteArray}{k:Nat}(h:zh l s=some k):k<l.length:=(List.getElem?_eq_some_iff.1 (qic h)).1
theorem qdn(u:ByteArray)(r:List ByteArray)(s:ByteArray):zh (u :: r) s=if u=s then some 0 else (zh r s).map (·+1):=rfl
theorem qca{s:ByteArray}:∀(a b:List ByteArray),zh (a++b) s=match zh a s with | some k=>some k | none=>(zh b s).map (·+a.length)
 | [],b=>by simp[zh]
 | u :: r,b=>by
  have c:=qca (s:=s) r b;rw[List.cons_append,qdn,qdn]
  by_cases h:u=s
  ·rw[if_pos h,if_pos h]
  ·rw[if_neg h,if_neg h,c]
   cases zh r s with
   | some k=>rfl
   | none =>
    simp only[Option.map_none]
    cases zh b s with
    | none=>rfl
    | some j=>simp[Nat.add_assoc]
def qid (F:FuncId):Prop:=∀(l:List ByteArray) (ao:Option Addr) (cap:Nat) (s:ByteArray) (w:World),Row w 1 ao l.length cap (strC l)->l.length<=10000->Calls Tryz.prog F #[.slice ao l.length cap,.string s] w fun e w'=>e=.returned (.int .i64 (idxI (zh l s)))/\w'=w
theorem qa3:qid 135:=by
 intro l F C s w r E;have p:=zk r;have v:=hid r;clear r
 obtain⟨n,j⟩:∃n,Hid (l.length=n):=⟨_,rfl⟩
 rw[j.out]at p E v ⊢;go_enter Tryz.func135,Tryz.ntmps135;go_wp2_with fail
 go_loopg [8] n (fun kx s8 wr=>∃k:Nat,s8=.int .i64 k/\k<=n/\n - k<=kx/\Hid (wr=w/\∀(i:Nat) (y:ByteArray),i<k->l[i]?=some y->y≠s))
 case atStart=>exact⟨0,rfl,Nat.zero_le _,by omega,(⟨rfl,fun i y B=>absurd B (Nat.not_lt_zero _)⟩:w=w/\∀(i:Nat) (y:ByteArray),i<0->l[i]?=some y->y≠s)⟩
 case round =>
  obtain⟨k,rfl,H,G,J⟩:=hrel;obtain⟨t,A⟩:=J.out;subst t;have g:=hid A;clear J A
  by_cases q:k<n
  ·have f:(k:Int)<(n:Int):=by omega
   obtain⟨x,u⟩:∃x,l[k]?=some x:=⟨l[k]'(by rw[j.out];exact q),List.getElem?_eq_getElem _⟩
   obtain⟨b,o,m,c0⟩:=jy v.out u;subst m;have z:=hid u;clear u
   by_cases a:x=s
   ·have D:=xv a.symm
    have d:Hid (idxI (zh l s)=(k:Int)):=by
     show _=_;rw[qdm g.out z.out a];rfl
    clear a;go_wp2_with fail;go_ret;exact⟨by rw[d.out];rfl,rfl⟩
   ·have D:=xu (fun e=>a e.symm:s≠x)
    have d:Hid (∀(i:Nat) (y:ByteArray),i<k+1->l[i]?=some y->y≠s):=fun i y B c=>by
     rcases Nat.lt_or_ge i k with h | h
     ·exact g.out i y h c
     ·have:i=k:=by omega
      subst this;rw[z.out]at c
      cases c
      exact a
    clear a;go_wp2_with fail;go_roundg (n - (k+1))
    case measure=>omega
    case rel=>exact⟨k+1,by simp,by omega,Nat.le_refl _,(⟨rfl,d.out⟩:wr=wr/\∀(i:Nat) (y:ByteArray),i<k+1->l[i]?=some y->y≠s)⟩
  ·have f:¬(k:Int)<(n:Int):=by omega
   have d:Hid (idxI (zh l s)=-1):=by
    show _=_;rw[qbu (fun i y c=>g.out i y (by have:=(List.getElem?_eq_some_iff.1 c).1;rw[j.out]at this;omega) c)]
    rfl
   go_wp2_with fail;go_ret;exact⟨by rw[d.out];rfl,rfl⟩
theorem qa4:qid 24:=by
 intro l F C s w r E;have p:=zk r;have v:=hid r;clear r
 obtain⟨n,j⟩:∃n,Hid (l.length=n):=⟨_,rfl⟩
 rw[j.out]at p E v ⊢;go_enter Tryz.func24,Tryz.ntmps24;go_wp2_with fail
 go_loopg [5] n (fun kx s5 wr=>∃k:Nat,s5=.int .i64 k/\k<=n/\n - k<=kx/\Hid (wr=w/\∀(i:Nat) (y:ByteArray),i<k->l[i]?=some y->y≠s))
 case atStart=>exact⟨0,rfl,Nat.zero_le _,by omega,(⟨rfl,fun i y B=>absurd B (Nat.not_lt_zero _)⟩:w=w/\∀(i:Nat) (y:ByteArray),i<0->l[i]?=some y->y≠s)⟩
 case round =>
  obtain⟨k,rfl,H,G,J⟩:=hrel;obtain⟨t,A⟩:=J.out;subst t;have g:=hid A;clear J A
  by_cases q:k<n
  ·have f:(k:Int)<(n:Int):=by omega
   obtain⟨x,u⟩:∃x,l[k]?=some x:=⟨l[k]'(by rw[j.out];exact q),List.getElem?_eq_getElem _⟩
   obtain⟨b,o,m,c0⟩:=jy v.out u;subst m;have z:=hid u;clear u
   by_cases a:x=s
   ·have D:=xv a
    have d:Hid (idxI (zh l s)=(k:Int)):=by
     show _=_;rw[qdm g.out z.out a];rfl
    clear a;go_wp2_with fail;go_ret;exact⟨by rw[d.out];rfl,rfl⟩
   ·have D:=xu a
    have d:Hid (∀(i:Nat) (y:ByteArray),i<k+1->l[i]?=some y->y≠s):=fun i y B c=>by
     rcases Nat.lt_or_ge i k with h | h
     ·exact g.out i y h c
     ·have:i=k:=by omega
      subst this;rw[z.out]at c
      cases c
      exact a
    clear a;go_wp2_with fail;go_roundg (n - (k+1))
    case measure=>omega
    case rel=>exact⟨k+1,by simp,by omega,Nat.le_refl _,(⟨rfl,d.out⟩:wr=wr/\∀(i:Nat) (y:ByteArray),i<k+1->l[i]?=some y->y≠s)⟩
  ·have f:¬(k:Int)<(n:Int):=by omega
   have d:Hid (idxI (zh l s)=-1):=by
    show _=_;rw[qbu (fun i y c=>g.out i y (by have:=(List.getElem?_eq_some_iff.1 c).1;rw[j.out]at this;omega) c)]
    rfl
   go_wp2_with fail;go_ret;exact⟨by rw[d.out];rfl,rfl⟩
theorem qa5(o:Option Nat):(0<=idxI o)↔o.isSome=true:=by
 cases o with
 | none=>simp[idxI]
 | some k=>simp[idxI]
theorem yy(l:List ByteArray)(d:Option Addr)(a:Nat)(s:ByteArray)(w:World)(i:Row w 1 d l.length a (strC l))(k:l.length<=10000)(b:Bool)(g:b=true↔s∈l):
  Calls Tryz.prog 147 #[.slice d l.length a,.string s] w fun e m=>e=.returned (.bool b)/\m=w:=by
 have f:=hid (qa3 l d a s w i k)
 have c:Hid (b=true↔0<=idxI (zh l s)):=by rw[qa5,ve];exact g
 clear g i;generalize idxI (zh l s)=z at f c;go_enter Tryz.func147,Tryz.ntmps147;go_wp2_with fail;refine f.out.mono ?_;rintro e w1 ⟨rfl,rfl⟩
 cases b
 ·have j:¬0<=z:=fun h=>by have:=c.out.2 h;cases this
  go_wp2_with fail;go_ret;exact⟨by simp[j],rfl⟩
 ·have j:=c.out.1 rfl;go_wp2_with fail;go_ret;exact⟨by simp,rfl⟩
def lfS (l:List ByteArray) (r:Ru):List ByteArray:=if (zh l r.l).isSome=true then l else l++[r.l]
def lfs (rs:List Ru):List ByteArray:=rs.foldl lfS []
def tkG (G:Gm):List ByteArray:=G.ts.map (·.n)
def nmG (G:Gm):List ByteArray:=tkG G++e0 :: lfs G.rs
def kq (G:Gm):ByteArray:=if G.s=e0 then ((G.rs[0]?).map (·.l)).getD e0 else G.s
def vo (G:Gm):Prop:=12<G.ts.length\/30<G.rs.length\/10<(lfs G.rs).length\/∃r∈G.rs,6<r.r.length
structure NmP (G:Gm):Prop where
 ne:G.rs≠[]
 tk:∀t∈G.ts,t.n ∉ lfs G.rs
 pr:∀r∈G.rs,r.p=e0\/r.p∈tkG G
 rr:∀r∈G.rs,∀x∈r.r,x∈tkG G\/x∈lfs G.rs
 st:kq G∈lfs G.rs
def ix (l:List ByteArray) (s:ByteArray):Nat:=(zh l s).getD 0
def byS (nm:List ByteArray) (tk:Nat) (o:Option Nat) (x:ByteArray):Option Nat:=if ix nm x<tk then some (ix nm x) else o
def byL (G:Gm) (l:List ByteArray):Option Nat:=l.foldl (byS (nmG G) G.ts.length) none
def byG (G:Gm) (r:Ru):Option Nat:=if r.p=e0 then byL G r.r else zh (tkG G) r.p
def lvO (ts:List Tk) (o:Option Nat):Int:=match o with | some k=>((ts[k]?).map (·.l)).getD 0 | none=>0
def azO (ts:List Tk) (o:Option Nat):Int:=match o with | some k=>((ts[k]?).map (·.a)).getD 0 | none=>0
def ruG (G:Gm) (r:Ru):SR:=⟨(ix (nmG G) r.l:Int),r.r.map (ix (nmG G)),lvO G.ts (byG G r),azO G.ts (byG G r)⟩
def stG (G:Gm):Nat:=G.ts.length+1+ix (lfs G.rs) (kq G)
def sy0 (G:Gm):Sp:=⟨G.ts.length,(lfs G.rs).length,0,G.e,nmG G,G.ts.map (·.l),G.ts.map (·.a),[]⟩
def spG (G:Gm):Sp:=⟨G.ts.length,(lfs G.rs).length,stG G,G.e,nmG G,G.ts.map (·.l),G.ts.map (·.a),⟨-1,[stG G],0,0⟩ :: G.rs.map (ruG G)⟩
def qbv (S:Sp):Prop:=∃x,S.tk<x/\x<S.tk+1+S.nt/\(¬Der S x\/¬Rch S x)
def OfR (G:Gm) (k:Int):Prop:=(k=1/\¬MayP G)\/(k=6/\MayP G/\vo G)\/(k=7/\MayP G/\¬vo G/\¬NmP G)\/(k=8/\MayP G/\¬vo G/\NmP G/\qbv (spG G))\/(k=0/\MayP G/\¬vo G/\NmP G/\¬qbv (spG G))
theorem qq5(rs:List Ru)(r:Ru):lfs (rs++[r])=lfS (lfs rs) r:=by unfold lfs;rw[List.foldl_append];rfl
theorem qdo{rs:List Ru}{k:Nat}{r:Ru}(h:rs[k]?=some r):lfs (rs.take (k+1))=lfS (lfs (rs.take k)) r:=by rw[zw h,qq5]
theorem qsw{l:List ByteArray}{r:Ru}{x:ByteArray}:x∈lfS l r↔x∈l\/x=r.l:=by
 unfold lfS
 split
 ·rename_i h;have h:=ve.1 h
  constructor
  ·exact .inl
  ·rintro(a | a)
   ·exact a
   ·rw[a];exact h
 ·rw[List.mem_append,List.mem_singleton]
theorem qep(x:ByteArray):∀(rs:List Ru) (l:List ByteArray),x∈rs.foldl lfS l↔x∈l\/∃r∈rs,r.l=x
 | [],l=>by simp
 | r :: rs,l=>by
  rw[List.foldl_cons,qep x rs,qsw]
  constructor
  ·rintro((h | h) | ⟨q,a,h⟩)
   ·exact .inl h
   ·exact .inr ⟨r,by simp,h.symm⟩
   ·exact .inr ⟨q,List.mem_cons_of_mem _ a,h⟩
  ·rintro(h | ⟨q,a,h⟩)
   ·exact .inl (.inl h)
   ·rcases List.mem_cons.1 a with rfl | a
    ·exact .inl (.inr h.symm)
    ·exact .inr ⟨q,a,h⟩
theorem qc6{rs:List Ru}{x:ByteArray}:x∈lfs rs↔∃r∈rs,r.l=x:=by
 unfold lfs;rw[qep];simp
theorem qfh:∀(rs:List Ru) (l:List ByteArray),(rs.foldl lfS l).length<=l.length+rs.length
 | [],l=>by simp
 | r :: rs,l=>by
  rw[List.foldl_cons];have:=qfh rs (lfS l r)
  have a:(lfS l r).length<=l.length+1:=by
   unfold lfS
   split
   ·omega
   ·simp
  rw[List.length_cons];omega
theorem vu(rs:List Ru):(lfs rs).length<=rs.length:=by
 have:=qfh rs [];unfold lfs
 simpa using this
theorem jt(G:Gm):(nmG G).length=G.ts.length+1+(lfs G.rs).length:=by
 unfold nmG tkG;rw[List.length_append,List.length_map,List.length_cons];omega
theorem qhs{s:ByteArray}(h:kd s):s≠e0:=by
 rintro rfl;unfold kd at h
 have:nameOk (by8 e0)=false:=by kernel_rfl
 rw[this]at h
 cases h
theorem qq6{G:Gm}(h:MayP G){x:ByteArray}(b:x∈lfs G.rs):x≠e0:=by
 obtain⟨r,a,rfl⟩:=qc6.1 b;exact qhs (h.rl r a).1
theorem qsx{G:Gm}(h:MayP G){x:ByteArray}(a:x∈tkG G):x≠e0:=by
 unfold tkG at a;obtain⟨t,c,rfl⟩:=List.mem_map.1 a;obtain⟨i,b⟩:=List.getElem?_of_mem c;exact qhs (h.tk.1 i t b).1
theorem qsy{G:Gm}(h:MayP G){r:Ru}(a:r∈G.rs){x:ByteArray}(b:x∈r.r):x≠e0:=qhs ((h.rl r a).2.2.2 x b)
theorem qd5{l:List ByteArray}{s:ByteArray}(h:s ∉ l):zh l s=none:=by
 cases a:zh l s with
 | none=>rfl
 | some k=>exact absurd (ve.1 (by rw[a];rfl)) h
theorem qaa{l:List ByteArray}{s:ByteArray}(h:s∈l):∃k,zh l s=some k:=by
 cases a:zh l s with
 | none=>have:=ve.2 h;rw[a]at this;cases this
 | some k=>exact⟨k,rfl⟩
theorem qeq{G:Gm}(d:MayP G)(f:NmP G){x:ByteArray}(a:x∈lfs G.rs):zh (nmG G) x=some (G.ts.length+1+ix (lfs G.rs) x):=by
 obtain⟨k,b⟩:=qaa a
 have c:zh (tkG G) x=none:=qd5 (fun h=>by
  unfold tkG at h;obtain⟨t,g,rfl⟩:=List.mem_map.1 h
  exact f.tk t g a)
 unfold nmG;rw[qca,c];simp only;rw[qdn,if_neg (fun e=>qq6 d a e.symm),b];unfold ix tkG;rw[b];simp;omega
theorem qq7{G:Gm}{x:ByteArray}(c:x∈tkG G):zh (nmG G) x=some (ix (tkG G) x)/\ix (tkG G) x<G.ts.length:=by
 obtain⟨k,b⟩:=qaa c;have a:=qf0 b;unfold nmG ix;rw[qca,b];refine⟨rfl,?_⟩;unfold tkG at a;rw[List.length_map]at a;exact a
theorem qe1{l:List ByteArray}{x:ByteArray}(h:x∈l):ix l x<l.length:=by
 obtain⟨k,a⟩:=qaa h;unfold ix;rw[a];exact qf0 a
theorem qc7{l:List ByteArray}{x:ByteArray}(h:x∈l):zh l x=some (ix l x):=by
 obtain⟨k,a⟩:=qaa h;unfold ix;rw[a];rfl
theorem qby{G:Gm}{x:ByteArray}(h:x∈tkG G\/x∈lfs G.rs):x∈nmG G:=by
 unfold nmG
 rcases h with h | h
 ·exact List.mem_append_left _ h
 ·exact List.mem_append_right _ (List.mem_cons_of_mem _ h)
theorem qer{G:Gm}(t:MayP G)(f:¬vo G)(m:NmP G):WF (spG G):=by
 have o:G.ts.length<=12:=by
  rcases Nat.lt_or_ge 12 G.ts.length with h | h
  ·exact absurd (.inl h) f
  ·exact h
 have p:G.rs.length<=30:=by
  rcases Nat.lt_or_ge 30 G.rs.length with h | h
  ·exact absurd (.inr (.inl h)) f
  ·exact h
 have s:(lfs G.rs).length<=10:=by
  rcases Nat.lt_or_ge 10 (lfs G.rs).length with h | h
  ·exact absurd (.inr (.inr (.inl h))) f
  ·exact h
 have k:∀r∈G.rs,r.r.length<=6:=fun r a=>by
  rcases Nat.lt_or_ge 6 r.r.length with h | h
  ·exact absurd (.inr (.inr (.inr ⟨r,a,h⟩))) f
  ·exact h
 have c:stG G<G.ts.length+1+(lfs G.rs).length:=by
  have:=qe1 m.st;unfold stG;omega
 refine⟨jt G,by simp[spG],by simp[spG],by show G.ts.length<=100;omega,by show(lfs G.rs).length<=200;omega,by simp[spG];omega,rfl,⟨by show G.ts.length<stG G;unfold stG;omega,c⟩,?_,?_⟩
 ·intro i r A a
  obtain⟨j,rfl⟩:∃j,i=j+1:=⟨i - 1,by omega⟩
  have a:(G.rs.map (ruG G))[j]?=some r:=by simpa [spG] using a
  rw[List.getElem?_map]at a;obtain⟨q,g,rfl⟩:=Option.map_eq_some_iff.1 a;have b:=qc6.2 ⟨q,List.mem_of_getElem? g,rfl⟩;refine⟨ix (nmG G) q.l,rfl,?_⟩;have n:=qeq t m b
  have v:ix (nmG G) q.l=G.ts.length+1+ix (lfs G.rs) q.l:=by
   unfold ix at n ⊢;rw[n];rfl
  have z:=qe1 b;show G.ts.length<_/\_<G.ts.length+1+(lfs G.rs).length;omega
 ·intro r a
  have a:r=⟨-1,[stG G],0,0⟩\/r∈G.rs.map (ruG G):=by simpa [spG] using a
  rcases a with rfl | a
  ·refine⟨by simp,fun y d=>?_⟩
   have:y=stG G:=by simpa using d
   subst this;exact c
  ·obtain⟨q,g,rfl⟩:=List.mem_map.1 a;refine⟨by have:=k q g;simp[ruG];omega,fun y d=>?_⟩
   have d:y∈q.r.map (ix (nmG G)):=d;obtain⟨x,u,rfl⟩:=List.mem_map.1 d;have:=qe1 (qby (m.rr q g x u));rw[jt]at this;exact this
theorem qdp(G:Gm)(l:List ByteArray)(x:ByteArray):byL G (l++[x])=byS (nmG G) G.ts.length (byL G l) x:=by unfold byL;rw[List.foldl_append];rfl
theorem qt0{c:List ByteArray}{b:Nat}{o:Option Nat}{x:ByteArray}(h:∀k,o=some k->k<b):∀k,byS c b o x=some k->k<b:=by
 intro k a;unfold byS at a
 split at a
 ·cases a;assumption
 ·exact h k a
theorem qfi(b:List ByteArray)(a:Nat):∀(l:List ByteArray) (o:Option Nat),(∀k,o=some k->k<a)->∀k,l.foldl (byS b a) o=some k->k<a
 | [],_,h,k,hk=>h k hk
 | x :: l,o,h,k,hk=>qfi b a l (byS b a o x) (qt0 h) k hk
theorem qt1{G:Gm}{l:List ByteArray}{k:Nat}(h:byL G l=some k):k<G.ts.length:=qfi _ _ l none (fun k a=>by cases a) k h
theorem qpi{G:Gm}{r:Ru}{k:Nat}(h:byG G r=some k):k<G.ts.length:=by
 unfold byG at h
 split at h
 ·exact qt1 h
 ·have:=qf0 h;unfold tkG at this
  rwa [List.length_map]at this
theorem qq8{w:World}{b o n a k:Nat}{l:List ByteArray}(h:Row w 1 (some ⟨b,o,none⟩) n a (strC l))(m:k<=n):Row w 1 (some ⟨b,o+k,none⟩) (n - k) (a - k) (strC (l.drop k)):=by
 have d:=h.len;have g:=h.le;have i:=h.max
 have f:l.length=n:=by unfold strC at d;rw[List.length_map]at d;omega
 refine⟨by unfold strC;rw[List.length_map,List.length_drop];omega,by omega,by omega,.inr ⟨b,o+k,rfl,fun j u c=>?_⟩⟩
 rcases h.lies with ⟨e,-⟩ | ⟨b',o',e,hc⟩
 ·cases e
 ·cases e
  rw[Nat.add_assoc];refine hc (k+j) u ?_;unfold strC at c ⊢;rw[List.getElem?_map]at c ⊢;rw[List.getElem?_drop]at c;exact c
theorem qes(h:SHd)(S:Sp)(w:World)(b:Row w 1 h.na S.nm.length h.nc (strC S.nm))(g:S.tk<=S.nm.length):
  Calls Tryz.prog 152 #[sv h S] w fun e a=>e=.returned (.slice h.na S.tk h.nc)/\Row a 1 h.na S.tk h.nc (strC (S.nm.take S.tk))/\Below w.heap.size w a:=by
 have f:=zk b
 have c:Hid (∀a,Below w.heap.size w a->Row a 1 h.na S.tk h.nc (strC (S.nm.take S.tk))):=fun a d=>by
  have:=(b.below d).take S.tk g;rw[Nat.mul_one]at this;unfold strC at this ⊢
  rwa [<-List.map_take]at this
 unfold sv sC;clear b
 generalize S.nm.length=n at *
 generalize S.lv.length=k;generalize S.az.length=i;generalize S.rs.length=l
 have j:(S.tk:Int)<=(h.nc:Int):=by omega
 go_enter Tryz.func152,Tryz.ntmps152;go_wp2_with fail;go_ret;exact⟨rfl,c.out _ (qb _ _),qb _ _⟩
theorem qet(h:SHd)(S:Sp)(w:World)(g:Row w 1 h.na S.nm.length h.nc (strC S.nm))(m:S.tk+1<=S.nm.length):
  Calls Tryz.prog 148 #[sv h S] w fun e d=>∃l c,e=.returned (.slice l (S.nm.length - (S.tk+1)) c)/\Row d 1 l (S.nm.length - (S.tk+1)) c (strC (S.nm.drop (S.tk+1)))/\Below w.heap.size w d:=by
 have k:=zk g;obtain⟨b,o,f,-⟩:=g.at (by omega);rw[f]at g
 have i:Hid (∀d,Below w.heap.size w d->Row d 1 (some ⟨b,o+(S.tk+1),none⟩) (S.nm.length - (S.tk+1)) (h.nc - (S.tk+1)) (strC (S.nm.drop (S.tk+1)))):=fun d t=>qq8 (g.below t) m
 have a:Hid (h.nc=S.tk+1->∀d,Row d 1 (some ⟨b,o,none⟩) (S.nm.length - (S.tk+1)) 0 (strC (S.nm.drop (S.tk+1)))):=fun e d=>by
  have r:S.nm.length=S.tk+1:=by omega
  have s:S.nm.drop (S.tk+1)=[]:=List.drop_of_length_le (by omega);rw[s,r,Nat.sub_self];exact⟨rfl,Nat.le_refl _,Nat.zero_le _,.inr ⟨b,o,rfl,fun j u x=>by cases x⟩⟩
 unfold sv sC;rw[f];clear g f
 obtain⟨n,q⟩:∃n,Hid (S.nm.length=n):=⟨_,rfl⟩
 rw[q.out]at i a k m ⊢;generalize S.lv.length=B;generalize S.az.length=y;generalize S.rs.length=C
 have z:(S.tk:Int)+1<=(n:Int):=by omega
 have A:(n:Int)<=(h.nc:Int):=by omega
 go_enter Tryz.func148,Tryz.ntmps148
 by_cases v:h.nc=S.tk+1
 ·have p:=hid (a.out v);clear i a;go_wp2_with fail;go_ret;exact⟨_,_,rfl,p.out _,qb _ _⟩
 ·clear a;go_wp2_with fail;go_ret;exact⟨_,_,rfl,i.out _ (qb _ _),qb _ _⟩
theorem qd6(G:Gm)(h:Hd)(w:World)(k:IsG w h G)(m:G.rs≠[]):Calls Tryz.prog 136 #[gv h G] w fun e y=>e=.returned (.string (kq G))/\Below w.heap.size w y:=by
 obtain⟨ts,c,q,rs⟩:=G;obtain⟨C,D,z,A⟩:=h;simp only at m
 obtain⟨r,i⟩:∃r,rs[0]?=some r:=by
  cases rs with
  | nil=>exact absurd rfl m
  | cons a l=>exact⟨a,rfl⟩
 have p:=kv k.rul;obtain⟨b,o,E,F,j,c0,-,-,-⟩:=k.rul.at i;simp only at j p c0;subst j;rw[Nat.zero_mul,Nat.add_zero]at c0;have s:=(List.getElem?_eq_some_iff.1 i).1;have g:=qp c0;unfold gv;simp only
 by_cases d:c=e0
 ·have u:=(zy c).2 d
  have f:Hid (kq ⟨ts,c,q,rs⟩=r.l):=by
   unfold kq;simp only;rw[if_pos d,i];rfl
  rw[f.out];generalize r.l=B at g ⊢;clear k i d c0 m f
  generalize rs.length=t at *
  generalize ts.length=x at *
  have n:(0:Int)<(t:Int):=by omega
  go_enter Tryz.func136,Tryz.ntmps136;go_wp2_with fail;go_ret;exact⟨rfl,qb _ _⟩
 ·have u:(c.toList == [])=false:=by
   cases v:(c.toList == [])
   ·rfl
   ·exact absurd ((zy c).1 v) d
  have f:Hid (kq ⟨ts,c,q,rs⟩=c):=by
   show _=_;unfold kq;simp only;rw[if_neg d]
  rw[f.out];clear k i d c0 m f g
  generalize rs.length=t at *
  generalize ts.length=x at *
  go_enter Tryz.func136,Tryz.ntmps136;go_wp2_with fail;go_ret;exact⟨rfl,qb _ _⟩
theorem ql5(l p:ByteArray)(b:Option Addr)(n c:Nat)(w:World):Calls Tryz.prog 150 #[.agg #[.string l,.slice b n c,.string p]] w fun e a=>e=.returned (.bool (decide ((6:Int)<(n:Int))))/\Below w.heap.size w a:=by
 go_enter Tryz.func150,Tryz.ntmps150;go_wp2_with fail;go_ret;exact⟨rfl,qb _ _⟩
theorem qgv(rs:List Ru)(F:Option Addr)(f:Nat)(w:World)(a:jm w F rs.length f rs)(I:rs.length<=10000)(G:∀r∈rs,r.r.length<=1000):
  Calls Tryz.prog 162 #[.slice F rs.length f,.func (.func 150) #[] #[]] w fun e L=>∃z:Int,e=.returned (.int .i64 z)/\(0<=z↔∃r∈rs,6<r.r.length)/\Below w.heap.size w L:=by
 have B:=kv a;have v:=hid2 a G;clear a G
 obtain⟨n,u⟩:∃n,Hid (rs.length=n):=⟨_,rfl⟩
 rw[u.out]at B I v ⊢;go_enter Tryz.func162,Tryz.ntmps162;go_wp2_with fail
 go_loopg [8] n (fun kx s8 wr=>∃k:Nat,s8=.int .i64 k/\k<=n/\n - k<=kx/\Hid (Below w.heap.size w wr/\∀(i:Nat) (r:Ru),i<k->rs[i]?=some r->¬6<r.r.length))
 case atStart=>exact⟨0,rfl,Nat.zero_le _,by omega,(⟨Below.refl _ _,fun i y g=>absurd g (Nat.not_lt_zero _)⟩:Below w.heap.size w w/\∀(i:Nat) (r:Ru),i<0->rs[i]?=some r->¬6<r.r.length)⟩
 case round =>
  obtain⟨k,rfl,P,O,J⟩:=hrel
  by_cases C:k<n
  ·have j:(k:Int)<(n:Int):=by omega
   obtain⟨r,a⟩:∃r,rs[k]?=some r:=⟨rs[k]'(by rw[u.out];exact C),List.getElem?_eq_getElem _⟩
   obtain⟨b,o,M,N,A,c0,c1,c2,s⟩:=(v.out.1.below J.out.1).at a;subst A;have m:=v.out.2 r (List.mem_of_getElem? a);have E:=hid a;have c:=hid (ql5 r.l r.p M r.r.length N wr);clear a s
   by_cases t:6<r.r.length
   ·have hd:decide ((6:Int)<(r.r.length:Int))=true:=by simp;omega
    rw[hd]at c
    have d:Hid (∃r∈rs,6<r.r.length):=⟨r,List.mem_of_getElem? E.out,t⟩
    generalize r.r.length=K at c1 c m;clear t hd;go_wp2_with(go_at_call 150;refine c.out.mono ?_;rintro e w1 ⟨rfl,x⟩)
    go_ret;exact⟨(k:Int),rfl,⟨fun _=>d.out,fun _=>by omega⟩,qd J.out.1 x⟩
   ·have hd:decide ((6:Int)<(r.r.length:Int))=false:=by simp;omega
    rw[hd]at c
    have d:Hid (∀(i:Nat) (r:Ru),i<k+1->rs[i]?=some r->¬6<r.r.length):=fun i q g D=>by
     rcases Nat.lt_or_ge i k with h | h
     ·exact J.out.2 i q h D
     ·have:i=k:=by omega
      subst this;rw[E.out]at D
      cases D
      exact t
    generalize r.r.length=K at c1 c m;clear t hd;go_wp2_with(go_at_call 150;refine c.out.mono ?_;rintro e w1 ⟨rfl,x⟩)
    go_roundg (n - (k+1))
    case measure=>omega
    case rel=>exact⟨k+1,by simp,by omega,Nat.le_refl _,(⟨qd J.out.1 x,d.out⟩:Below w.heap.size w w1/\∀(i:Nat) (r:Ru),i<k+1->rs[i]?=some r->¬6<r.r.length)⟩
  ·have j:¬(k:Int)<(n:Int):=by omega
   have d:Hid (¬∃r∈rs,6<r.r.length):=by
    rintro⟨r,a,H⟩;obtain⟨i,g⟩:=List.getElem?_of_mem a;exact J.out.2 i r (by have:=(List.getElem?_eq_some_iff.1 g).1;rw[u.out]at this;omega) g H
   go_wp2_with fail;go_ret;exact⟨-1,rfl,⟨fun h=>by omega,fun h=>absurd h d.out⟩,J.out.1⟩
theorem qja(rs:List Ru)(d:Option Addr)(a:Nat)(w:World)(m:jm w d rs.length a rs)(o:rs.length<=10000)(n:∀r∈rs,r.r.length<=1000)(b:Bool)(l:b=true↔∃r∈rs,6<r.r.length):
  Calls Tryz.prog 149 #[.slice d rs.length a,.func (.func 150) #[] #[]] w fun e p=>e=.returned (.bool b)/\Below w.heap.size w p:=by
 have g:=hid (qgv rs d a w m o n);have f:=hid l;clear m l n;go_enter Tryz.func149,Tryz.ntmps149;go_wp2_with fail;refine g.out.mono ?_;rintro e w1 ⟨z,rfl,c,k⟩;have i:=hid (f.out.trans c.symm);have j:=hid k;clear c k f g
 cases b
 ·have c:¬0<=z:=fun h=>by have:=i.out.2 h;cases this
  go_wp2_with fail;go_ret;exact⟨by simp[c],j.out⟩
 ·have c:=i.out.1 rfl;go_wp2_with fail;go_ret;exact⟨by simp,j.out⟩
theorem qjb(G:Gm)(h:Hd)(w:World)(a:IsG w h G)(b:Bool)(x:b=true↔vo G)(m:Nat)(q:(lfs G.rs).length=m):Calls Tryz.prog 133 #[gv h G,.int .i64 (m:Int)] w fun e v=>e=.returned (.bool b)/\Below w.heap.size w v:=by
 obtain⟨ts,M,L,rs⟩:=G;obtain⟨N,A,y,z⟩:=h;simp only at q;have J:ts.length<=100:=a.small.nt;have K:rs.length<=200:=a.small.nr
 have H:m<=200:=by have:=vu rs;omega
 have F:ts.length<=A/\A<=9223372036854775807:=by have k:=a.tok.le;have j:=a.tok.max;simp only at k j;unfold maxLen at j;omega
 have s:=kv a.rul;simp only at s;obtain⟨i,d⟩:=zv (∃r∈rs,6<r.r.length)
 have B:Hid (∀V:World,Below w.heap.size w V->Calls Tryz.prog 149 #[.slice y rs.length z,.func (.func 150) #[] #[]] V fun e v=>e=.returned (.bool i)/\Below V.heap.size V v):=fun V E=>qja rs y z V (a.rul.below E) (by omega) (fun r I=>Nat.le_trans (a.small.rl r I).2.2.1 (by omega)) i d
 have f:Hid (b=true↔(12<ts.length\/30<rs.length\/10<m\/i=true)):=by
  rw[<-q,d];exact x
 unfold gv;simp only;clear a x d q
 generalize ts.length=u at *
 generalize rs.length=t at *
 have g:Hid (∀o,Below w.heap.size w (w.alloc o)):=fun o=>qb w o
 go_enter Tryz.func133,Tryz.ntmps133
 by_cases k:12<u
 ·have c:=hid (f.out.2 (.inl k))
  have l:(12:Int)<(u:Int):=by omega
  go_wp2_with fail;go_ret;exact⟨by rw[c.out];rfl,g.out _⟩
 have l:¬(12:Int)<(u:Int):=by omega
 by_cases j:30<t
 ·have c:=hid (f.out.2 (.inr (.inl j)))
  have n:(30:Int)<(t:Int):=by omega
  go_wp2_with fail;go_ret;exact⟨by rw[c.out];rfl,g.out _⟩
 have n:¬(30:Int)<(t:Int):=by omega
 by_cases C:10<m
 ·have c:=hid (f.out.2 (.inr (.inr (.inl C))))
  have p:(10:Int)<(m:Int):=by omega
  go_wp2_with fail;go_ret;exact⟨by rw[c.out];rfl,g.out _⟩
 have p:¬(10:Int)<(m:Int):=by omega
 have c:Hid (b=i):=by
  cases b <;> cases i
  ·rfl
  ·have:=f.out.2 (.inr (.inr (.inr rfl)));cases this
  ·rcases f.out.1 rfl with h | h | h | h
   ·omega
   ·omega
   ·omega
   ·cases h
  ·rfl
 go_wp2_with fail;refine(B.out _ (g.out _)).mono ?_;rintro e w1 ⟨rfl,D⟩;go_wp2_with fail;go_ret;exact⟨by rw[c.out];rfl,qd (g.out _) D⟩
structure SB (w W:World) (sb:Nat) (h:SHd) (S:Sp) (qs:List (SR × Option Addr × Nat)):Prop where
 box:W.heap[sb]?=some (.cells (sC h S) 31 (0,0))
 nm:W.ownsRow w.heap.size 9 1 (.slice h.na S.nm.length h.nc) S.nm.length (strC S.nm)
 lv:W.ownsRow w.heap.size 3 1 (.slice h.la S.lv.length h.lc) S.lv.length (intC S.lv)
 az:W.ownsRow w.heap.size 3 1 (.slice h.aa S.az.length h.ac) S.az.length (intC S.az)
 rl:W.ownsRow w.heap.size 56 4 (.slice h.ra S.rs.length h.rc) S.rs.length (srC qs)
 map:qs.map (·.1)=S.rs
 row:∀q∈qs,W.ownsRow w.heap.size 3 1 (.slice q.2.1 q.1.r.length q.2.2) q.1.r.length (natC q.1.r)
 dis:∀k,blk h.la=some k->blk h.aa≠some k
 bel:Below w.heap.size w W
 new:w.heap.size<=sb
theorem SB.isSp{w W:World}{b:Nat}{h:SHd}{S:Sp}{qs:List (SR × Option Addr × Nat)}(s:SB w W b h S qs):IsSp W h S :=
 ⟨Row.of_own s.nm,Row.of_own s.lv,Row.of_own s.az,⟨qs,s.map,Row.of_own s.rl,fun q a=>Row.of_own (s.row q a)⟩⟩
theorem zl{W b:World}{a E k n:Nat}{v:Value}{cs:List Value}(h:W.ownsRow a E k v n cs)(c:Below W.heap.size W b):b.ownsRow a E k v n cs :=
 qh h (fun i d=>c.block i (World.ownsRow.lt h i d).2)
theorem SB.step{w W b:World}{c:Nat}{h:SHd}{S:Sp}{qs:List (SR × Option Addr × Nat)}(s:SB w W c h S qs)(a:Below W.heap.size W b):SB w b c h S qs :=
 ⟨qf a s.box,zl s.nm a,zl s.lv a,zl s.az a,zl s.rl a,s.map,fun q d=>zl (s.row q d) a,s.dis,qd s.bel a,s.new⟩
theorem SB.first{w W:World}{a:Nat}{S:Sp}(h:W.heap[a]?=some (.cells (sC ⟨none,0,none,0,none,0,none,0⟩ S) 31 (0,0)))(c:S.nm=[])(d:S.lv=[])(f:S.az=[])(b:S.rs=[])(g:Below w.heap.size w W)(l:w.heap.size<=a):SB w W a ⟨none,0,none,0,none,0,none,0⟩ S []:=by
 refine⟨h,?_,?_,?_,?_,by rw[b];rfl,(fun q j=>by cases j),(fun k i=>by cases i),g,l⟩
 ·rw[c];exact World.ownsRow_nil _ _ _ _
 ·rw[d];exact World.ownsRow_nil _ _ _ _
 ·rw[f];exact World.ownsRow_nil _ _ _ _
 ·rw[b];exact World.ownsRow_nil _ _ _ _
theorem vp{W b:World}{F:Nat->Prop}{a E k n:Nat}{v:Value}{cs:List Value}(h:W.ownsRow a E k v n cs)(f:Kept F W b)(d:∀i,v.ownBlock=some i->¬F i):b.ownsRow a E k v n cs :=
 qh h (fun i c=>f.block i (World.ownsRow.lt h i c).2 (d i c))
theorem zu{W:World}{b j a E k n:Nat}{v u:Value}{cs:List Value}{c:Array Value}(h:W.ownsRow a E k v n cs)(f:W.heap[b]?=some (.cells c 31 (0,0)))(d:E≠31):(W.setCell ⟨b,j,none⟩ u).ownsRow a E k v n cs :=
 qh h (fun _ g=>Below.heap_setCell _ _ _ _ (qu (za h g) ⟨_,f⟩ d))
theorem yj{W:World}{a j:Nat}{u:Value}{c:Array Value}(b:W.heap[a]?=some (.cells c 31 (0,0))):(W.setCell ⟨a,j,none⟩ u).heap[a]?=some (.cells (c.setIfInBounds j u) 31 (0,0)):=by
 rw[setCell_eq_setRow W a j _ 31 (0,0) _ b];exact setRow_heap _ _ _ _ 31 _ b
theorem SB.addNm{w W:World}{d:Nat}{h:SHd}{S:Sp}{qs:List (SR × Option Addr × Nat)}(s:SB w W d h S qs)(x:ByteArray)(A:S.nm.length<10000):
  ∃g c f,(Builtin.append_ #[27,27] 27 #[.slice h.na S.nm.length h.nc,.slice (some ⟨W.heap.size,0,none⟩) 1 1]).run Tryz.prog (W.alloc (.cells #[.string x] 9))=.ok (.slice (some ⟨g,0,none⟩) (S.nm.length+1) c) f /\
   f.heap[d]?=some (.cells (sC h S) 31 (0,0))/\SB w (f.setCell ⟨d,4,none⟩ (.slice (some ⟨g,0,none⟩) (S.nm.length+1) c)) d ⟨some ⟨g,0,none⟩,c,h.la,h.lc,h.aa,h.ac,h.ra,h.rc⟩ ⟨S.tk,S.nt,S.st,S.ex,S.nm++[x],S.lv,S.az,S.rs⟩ qs/\Kept (fun k=>k=d\/blk h.na=some k) W (f.setCell ⟨d,4,none⟩ (.slice (some ⟨g,0,none⟩) (S.nm.length+1) c)):=by
 obtain⟨g,c,f,y,j,l,z⟩:=xy (us:=[.string x]) u28 i9 rfl (by decide) (by decide) rfl (fun u m=>by rw[List.mem_singleton]at m;subst m;rfl) s.nm s.bel.size (by omega)
 have b:=((Kept.refl _ W).alloc _).trans l (fun k _ e=>ze e)
 have stay:∀{E k n:Nat} {v:Value} {cs:List Value},W.ownsRow w.heap.size E k v n cs->E≠9->f.ownsRow w.heap.size E k v n cs:=fun j o=>vp j b (fun i r e=>qu (za j r) (qw s.nm e).2.2 o rfl)
 have a:f.heap[d]?=some (.cells (sC h S) 31 (0,0)):=by
  rw[b.block d (Array.getElem?_eq_some_iff.1 s.box).1 (fun e=>qu ⟨_,s.box⟩ (qw s.nm e).2.2 (by decide) rfl)];exact s.box
 refine⟨g,c,f,y,a,⟨?_,?_,zu (stay s.lv (by decide)) a (by decide),zu (stay s.az (by decide)) a (by decide),zu (stay s.rl (by decide)) a (by decide),s.map,fun q t=>zu (stay (s.row q t) (by decide)) a (by decide),s.dis,?_,s.new⟩,?_⟩
 ·rw[yj a];unfold sC;simp
 ·simp only[List.length_append,List.length_cons,List.length_nil]
  have e:strC (S.nm++[x])=strC S.nm++[.string x]:=by unfold strC;rw[List.map_append];rfl
  rw[e];exact zu j a (by decide)
 ·refine(s.bel.trans (b.below s.bel.size (fun k l e=>?_))).setCell (p:=⟨d,4,none⟩) s.new _;have:=(qw s.nm e).1;omega
 ·exact Kept.setCell (b.weaken (fun k e=>.inr e)) _ _ (fun _=>.inl rfl)
theorem qie(l:List Int)(x:Int):intC (l++[x])=intC l++[.int .i64 x]:=by unfold intC;rw[List.map_append];rfl
theorem SB.addLv{w W:World}{d:Nat}{h:SHd}{S:Sp}(s:SB w W d h S [])(x:Int)(C:S.lv.length<10000):
  ∃g c f,(Builtin.append_ #[28,28] 28 #[.slice h.la S.lv.length h.lc,.slice (some ⟨W.heap.size,0,none⟩) 1 1]).run Tryz.prog (W.alloc (.cells #[.int .i64 x] 3))=.ok (.slice (some ⟨g,0,none⟩) (S.lv.length+1) c) f /\
   f.heap[d]?=some (.cells (sC h S) 31 (0,0))/\SB w (f.setCell ⟨d,5,none⟩ (.slice (some ⟨g,0,none⟩) (S.lv.length+1) c)) d ⟨h.na,h.nc,some ⟨g,0,none⟩,c,h.aa,h.ac,h.ra,h.rc⟩ ⟨S.tk,S.nt,S.st,S.ex,S.nm,S.lv++[x],S.az,S.rs⟩ []/\Kept (fun k=>k=d\/blk h.la=some k) W (f.setCell ⟨d,5,none⟩ (.slice (some ⟨g,0,none⟩) (S.lv.length+1) c)):=by
 obtain⟨g,c,f,B,j,r,z⟩:=xy (us:=[.int .i64 x]) u29 i3 rfl (by decide) (by decide) rfl (fun u t=>by rw[List.mem_singleton]at t;subst t;rfl) s.lv s.bel.size (by omega)
 have b:=((Kept.refl _ W).alloc _).trans r (fun k _ e=>ze e)
 have stay:∀{E k n:Nat} {v:Value} {cs:List Value},W.ownsRow w.heap.size E k v n cs->E≠3->f.ownsRow w.heap.size E k v n cs:=fun j y=>vp j b (fun i l e=>qu (za j l) (qw s.lv e).2.2 y rfl)
 have o:=vp s.az b (fun i l e=>s.dis i e (ze l))
 have a:f.heap[d]?=some (.cells (sC h S) 31 (0,0)):=by
  rw[b.block d (Array.getElem?_eq_some_iff.1 s.box).1 (fun e=>qu ⟨_,s.box⟩ (qw s.lv e).2.2 (by decide) rfl)];exact s.box
 refine⟨g,c,f,B,a,⟨?_,zu (stay s.nm (by decide)) a (by decide),?_,zu o a (by decide),zu (stay s.rl (by decide)) a (by decide),s.map,(fun q A=>by cases A),?_,?_,s.new⟩,?_⟩
 ·rw[yj a];unfold sC;simp
 ·simp only[List.length_append,List.length_cons,List.length_nil];rw[qie];exact zu j a (by decide)
 ·intro k m e
  cases m
  rcases z with h1 | h1
  ·exact s.dis g (ze h1) e
  ·have:=(qw s.az e).2.1;simp only at this;omega
 ·refine(s.bel.trans (b.below s.bel.size (fun k r e=>?_))).setCell (p:=⟨d,5,none⟩) s.new _;have:=(qw s.lv e).1;omega
 ·exact Kept.setCell (b.weaken (fun k e=>.inr e)) _ _ (fun _=>.inl rfl)
theorem SB.addAz{w W:World}{d:Nat}{h:SHd}{S:Sp}(s:SB w W d h S [])(x:Int)(C:S.az.length<10000):
  ∃g c f,(Builtin.append_ #[28,28] 28 #[.slice h.aa S.az.length h.ac,.slice (some ⟨W.heap.size,0,none⟩) 1 1]).run Tryz.prog (W.alloc (.cells #[.int .i64 x] 3))=.ok (.slice (some ⟨g,0,none⟩) (S.az.length+1) c) f /\
   f.heap[d]?=some (.cells (sC h S) 31 (0,0))/\SB w (f.setCell ⟨d,6,none⟩ (.slice (some ⟨g,0,none⟩) (S.az.length+1) c)) d ⟨h.na,h.nc,h.la,h.lc,some ⟨g,0,none⟩,c,h.ra,h.rc⟩ ⟨S.tk,S.nt,S.st,S.ex,S.nm,S.lv,S.az++[x],S.rs⟩ []/\Kept (fun k=>k=d\/blk h.aa=some k) W (f.setCell ⟨d,6,none⟩ (.slice (some ⟨g,0,none⟩) (S.az.length+1) c)):=by
 obtain⟨g,c,f,B,l,r,z⟩:=xy (us:=[.int .i64 x]) u29 i3 rfl (by decide) (by decide) rfl (fun u t=>by rw[List.mem_singleton]at t;subst t;rfl) s.az s.bel.size (by omega)
 have b:=((Kept.refl _ W).alloc _).trans r (fun k _ e=>ze e)
 have stay:∀{E k n:Nat} {v:Value} {cs:List Value},W.ownsRow w.heap.size E k v n cs->E≠3->f.ownsRow w.heap.size E k v n cs:=fun l y=>vp l b (fun i m e=>qu (za l m) (qw s.az e).2.2 y rfl)
 have o:=vp s.lv b (fun i m e=>s.dis i (ze m) e)
 have a:f.heap[d]?=some (.cells (sC h S) 31 (0,0)):=by
  rw[b.block d (Array.getElem?_eq_some_iff.1 s.box).1 (fun e=>qu ⟨_,s.box⟩ (qw s.az e).2.2 (by decide) rfl)];exact s.box
 refine⟨g,c,f,B,a,⟨?_,zu (stay s.nm (by decide)) a (by decide),zu o a (by decide),?_,zu (stay s.rl (by decide)) a (by decide),s.map,(fun q A=>by cases A),?_,?_,s.new⟩,?_⟩
 ·rw[yj a];unfold sC;simp
 ·simp only[List.length_append,List.length_cons,List.length_nil];rw[qie];exact zu l a (by decide)
 ·intro k j e
  cases e
  rcases z with h1 | h1
  ·exact s.dis g j (ze h1)
  ·have:=(qw s.lv j).2.1;simp only at this;omega
 ·refine(s.bel.trans (b.below s.bel.size (fun k r e=>?_))).setCell (p:=⟨d,6,none⟩) s.new _;have:=(qw s.az e).1;omega
 ·exact Kept.setCell (b.weaken (fun k e=>.inr e)) _ _ (fun _=>.inl rfl)
theorem SB.putNt{w W:World}{a:Nat}{h:SHd}{S:Sp}{qs:List (SR × Option Addr × Nat)}(s:SB w W a h S qs)(x:Nat):SB w (W.setCell ⟨a,1,none⟩ (.int .i64 (x:Int))) a h ⟨S.tk,x,S.st,S.ex,S.nm,S.lv,S.az,S.rs⟩ qs:=by
 refine⟨?_,zu s.nm s.box (by decide),zu s.lv s.box (by decide),zu s.az s.box (by decide),zu s.rl s.box (by decide),s.map,fun q b=>zu (s.row q b) s.box (by decide),s.dis,s.bel.setCell (p:=⟨a,1,none⟩) s.new _,s.new⟩;rw[yj s.box];unfold sC;simp
theorem SB.putSt{w W:World}{a:Nat}{h:SHd}{S:Sp}{qs:List (SR × Option Addr × Nat)}(s:SB w W a h S qs)(x:Nat):SB w (W.setCell ⟨a,2,none⟩ (.int .i64 (x:Int))) a h ⟨S.tk,S.nt,x,S.ex,S.nm,S.lv,S.az,S.rs⟩ qs:=by
 refine⟨?_,zu s.nm s.box (by decide),zu s.lv s.box (by decide),zu s.az s.box (by decide),zu s.rl s.box (by decide),s.map,fun q b=>zu (s.row q b) s.box (by decide),s.dis,s.bel.setCell (p:=⟨a,2,none⟩) s.new _,s.new⟩;rw[yj s.box];unfold sC;simp
theorem qkj(qs:List (SR × Option Addr × Nat))(q:SR × Option Addr × Nat):srC (qs++[q])=srC qs++[.int .i64 q.1.l,.slice q.2.1 q.1.r.length q.2.2,.int .i64 q.1.lv,.int .i64 q.1.a]:=by unfold srC;rw[List.flatMap_append];rfl
theorem SB.addRu{w W:World}{f:Nat}{h:SHd}{S:Sp}{qs:List (SR × Option Addr × Nat)}(s:SB w W f h S qs)(q:SR × Option Addr × Nat)(A:W.ownsRow w.heap.size 3 1 (.slice q.2.1 q.1.r.length q.2.2) q.1.r.length (natC q.1.r))(F:S.rs.length<10000):
  ∃g c j,(Builtin.append_ #[29,29] 29 #[.slice h.ra S.rs.length h.rc,.slice (some ⟨W.heap.size,0,none⟩) 1 1]).run Tryz.prog (W.alloc (.cells #[.int .i64 q.1.l,.slice q.2.1 q.1.r.length q.2.2,.int .i64 q.1.lv,.int .i64 q.1.a] 56))=.ok (.slice (some ⟨g,0,none⟩) (S.rs.length+1) c) j /\
   j.heap[f]?=some (.cells (sC h S) 31 (0,0))/\SB w (j.setCell ⟨f,7,none⟩ (.slice (some ⟨g,0,none⟩) (S.rs.length+1) c)) f ⟨h.na,h.nc,h.la,h.lc,h.aa,h.ac,some ⟨g,0,none⟩,c⟩ ⟨S.tk,S.nt,S.st,S.ex,S.nm,S.lv,S.az,S.rs++[q.1]⟩ (qs++[q])/\Kept (fun k=>k=f\/blk h.ra=some k) W (j.setCell ⟨f,7,none⟩ (.slice (some ⟨g,0,none⟩) (S.rs.length+1) c)):=by
 obtain⟨g,c,j,B,m,t,D⟩:=xy (us:=[.int .i64 q.1.l,.slice q.2.1 q.1.r.length q.2.2,.int .i64 q.1.lv,.int .i64 q.1.a]) u30 i62 rfl (by decide) (by decide) rfl (fun u x=>by simp at x;rcases x with rfl | rfl | rfl | rfl <;> rfl) s.rl s.bel.size (by omega)
 have d:=((Kept.refl _ W).alloc _).trans t (fun k _ e=>ze e)
 have stay:∀{E k n:Nat} {v:Value} {cs:List Value},W.ownsRow w.heap.size E k v n cs->E≠56->j.ownsRow w.heap.size E k v n cs:=fun m y=>vp m d (fun i z e=>qu (za m z) (qw s.rl e).2.2 y rfl)
 have b:j.heap[f]?=some (.cells (sC h S) 31 (0,0)):=by
  rw[d.block f (Array.getElem?_eq_some_iff.1 s.box).1 (fun e=>qu ⟨_,s.box⟩ (qw s.rl e).2.2 (by decide) rfl)];exact s.box
 refine⟨g,c,j,B,b,⟨?_,zu (stay s.nm (by decide)) b (by decide),zu (stay s.lv (by decide)) b (by decide),zu (stay s.az (by decide)) b (by decide),?_,?_,?_,s.dis,?_,s.new⟩,?_⟩
 ·rw[yj b];unfold sC;simp
 ·simp only[List.length_append,List.length_cons,List.length_nil];rw[qkj];exact zu m b (by decide)
 ·rw[List.map_append,s.map];rfl
 ·intro C o
  rcases List.mem_append.1 o with h1 | h1
  ·exact zu (stay (s.row C h1) (by decide)) b (by decide)
  ·rw[List.mem_singleton]at h1;subst h1;exact zu (stay A (by decide)) b (by decide)
 ·refine(s.bel.trans (d.below s.bel.size (fun k t e=>?_))).setCell (p:=⟨f,7,none⟩) s.new _;have:=(qw s.rl e).1;omega
 ·exact Kept.setCell (d.weaken (fun k e=>.inr e)) _ _ (fun _=>.inl rfl)
theorem qmu{W:World}{B g n:Nat}{E:List Bool}(h:W.ownsRow B 4 1 (.slice (some ⟨g,0,none⟩) n n) n (booC E)){x:Nat}(b:x<n):W.cell? ⟨g,x,none⟩=some (.bool (isF E x)):=by
 have a:=h.1;unfold booC at a;rw[List.length_map]at a;rw[h.cellAt x (by omega)];unfold booC;rw[List.getElem?_map,vy (by omega)];rfl
def zC:Array Value:=sC ⟨none,0,none,0,none,0,none,0⟩ ⟨0,0,0,0,[],[],[],[]⟩
structure SX (w W:World) (gb rb sb:Nat) (h:Hd) (G:Gm) (h':SHd) (S:Sp):Prop where
 sp:SB w W sb h' S []
 gx:W.heap[gb]?=some (.cells #[.slice h.ta G.ts.length h.tc,.string G.s,.int .i64 G.e,.slice h.ra G.rs.length h.rc] 25 (0,0))
 rx:W.heap[rb]?=some (.cells zC 31 (0,0))
 ne:rb≠sb
theorem SX.step{w W b:World}{c f g:Nat}{h:Hd}{G:Gm}{d:SHd}{S:Sp}(s:SX w W c f g h G d S)(a:Below W.heap.size W b):SX w b c f g h G d S :=
 ⟨s.sp.step a,qf a s.gx,qf a s.rx,s.ne⟩
theorem qf1{W g:World}{i b T E a n c:Nat}{h:Option Addr}{cs:List Value}{d:Array Value}(l:Kept (fun k=>k=i\/blk h=some k) W g)(o:W.ownsRow a E 1 (.slice h n c) n cs)(f:W.heap[b]?=some (.cells d T (0,0)))(j:T≠E)(m:b≠i):g.heap[b]?=some (.cells d T (0,0)):=by
 rw[l.block b (Array.getElem?_eq_some_iff.1 f).1 (fun e=>?_)]
 ·exact f
 ·rcases e with e | e
  ·exact m e
  ·exact qu ⟨_,f⟩ (qw o e).2.2 j rfl
theorem SX.addNm{w W:World}{k m j:Nat}{h:Hd}{G:Gm}{a:SHd}{S:Sp}(s:SX w W k m j h G a S)(x:ByteArray)(l:S.nm.length<10000):
  ∃g c i,(Builtin.append_ #[27,27] 27 #[.slice a.na S.nm.length a.nc,.slice (some ⟨W.heap.size,0,none⟩) 1 1]).run Tryz.prog (W.alloc (.cells #[.string x] 9))=.ok (.slice (some ⟨g,0,none⟩) (S.nm.length+1) c) i /\
   i.cell? ⟨j,4,none⟩=some (.slice a.na S.nm.length a.nc)/\i.frozen? ⟨j,4,none⟩=false/\SX w (i.setCell ⟨j,4,none⟩ (.slice (some ⟨g,0,none⟩) (S.nm.length+1) c)) k m j h G ⟨some ⟨g,0,none⟩,c,a.la,a.lc,a.aa,a.ac,a.ra,a.rc⟩ ⟨S.tk,S.nt,S.st,S.ex,S.nm++[x],S.lv,S.az,S.rs⟩ /\
   ∀(b T:Nat) (d:Array Value),W.heap[b]?=some (.cells d T (0,0))->T≠9->b≠j->(i.setCell ⟨j,4,none⟩ (.slice (some ⟨g,0,none⟩) (S.nm.length+1) c)).heap[b]?=some (.cells d T (0,0)):=by
 obtain⟨g,c,i,r,f,n,q⟩:=s.sp.addNm x l
 have far:=fun b T d p o l=>qf1 (b:=b) (T:=T) (d:=d) q s.sp.nm p o l
 exact⟨g,c,i,r,by rw[qe f];rfl,qj f 4,⟨n,far k 25 _ s.gx (by decide) (qu ⟨_,s.gx⟩ ⟨_,s.sp.box⟩ (by decide)),far m 31 _ s.rx (by decide) s.ne,s.ne⟩,far⟩
theorem SX.addLv{w W:World}{k m j:Nat}{h:Hd}{G:Gm}{a:SHd}{S:Sp}(s:SX w W k m j h G a S)(x:Int)(l:S.lv.length<10000):
  ∃g c i,(Builtin.append_ #[28,28] 28 #[.slice a.la S.lv.length a.lc,.slice (some ⟨W.heap.size,0,none⟩) 1 1]).run Tryz.prog (W.alloc (.cells #[.int .i64 x] 3))=.ok (.slice (some ⟨g,0,none⟩) (S.lv.length+1) c) i /\
   i.cell? ⟨j,5,none⟩=some (.slice a.la S.lv.length a.lc)/\i.frozen? ⟨j,5,none⟩=false/\SX w (i.setCell ⟨j,5,none⟩ (.slice (some ⟨g,0,none⟩) (S.lv.length+1) c)) k m j h G ⟨a.na,a.nc,some ⟨g,0,none⟩,c,a.aa,a.ac,a.ra,a.rc⟩ ⟨S.tk,S.nt,S.st,S.ex,S.nm,S.lv++[x],S.az,S.rs⟩ /\
   ∀(b T:Nat) (d:Array Value),W.heap[b]?=some (.cells d T (0,0))->T≠3->b≠j->(i.setCell ⟨j,5,none⟩ (.slice (some ⟨g,0,none⟩) (S.lv.length+1) c)).heap[b]?=some (.cells d T (0,0)):=by
 obtain⟨g,c,i,r,f,n,q⟩:=s.sp.addLv x l
 have far:=fun b T d p o l=>qf1 (b:=b) (T:=T) (d:=d) q s.sp.lv p o l
 exact⟨g,c,i,r,by rw[qe f];rfl,qj f 5,⟨n,far k 25 _ s.gx (by decide) (qu ⟨_,s.gx⟩ ⟨_,s.sp.box⟩ (by decide)),far m 31 _ s.rx (by decide) s.ne,s.ne⟩,far⟩
theorem SX.addAz{w W:World}{k m j:Nat}{h:Hd}{G:Gm}{a:SHd}{S:Sp}(s:SX w W k m j h G a S)(x:Int)(l:S.az.length<10000):
  ∃g c i,(Builtin.append_ #[28,28] 28 #[.slice a.aa S.az.length a.ac,.slice (some ⟨W.heap.size,0,none⟩) 1 1]).run Tryz.prog (W.alloc (.cells #[.int .i64 x] 3))=.ok (.slice (some ⟨g,0,none⟩) (S.az.length+1) c) i /\
   i.cell? ⟨j,6,none⟩=some (.slice a.aa S.az.length a.ac)/\i.frozen? ⟨j,6,none⟩=false/\SX w (i.setCell ⟨j,6,none⟩ (.slice (some ⟨g,0,none⟩) (S.az.length+1) c)) k m j h G ⟨a.na,a.nc,a.la,a.lc,some ⟨g,0,none⟩,c,a.ra,a.rc⟩ ⟨S.tk,S.nt,S.st,S.ex,S.nm,S.lv,S.az++[x],S.rs⟩:=by
 obtain⟨g,c,i,r,f,n,q⟩:=s.sp.addAz x l
 have far:=fun b T d p o l=>qf1 (b:=b) (T:=T) (d:=d) q s.sp.az p o l
 exact⟨g,c,i,r,by rw[qe f];rfl,qj f 6,⟨n,far k 25 _ s.gx (by decide) (qu ⟨_,s.gx⟩ ⟨_,s.sp.box⟩ (by decide)),far m 31 _ s.rx (by decide) s.ne,s.ne⟩⟩
def syT (G:Gm) (k:Nat):Sp:=⟨G.ts.length,0,0,G.e,(G.ts.take k).map (·.n),(G.ts.take k).map (·.l),(G.ts.take k).map (·.a),[]⟩
def syR (G:Gm) (k:Nat):Sp:=⟨G.ts.length,0,0,G.e,tkG G++e0 :: lfs (G.rs.take k),G.ts.map (·.l),G.ts.map (·.a),[]⟩
def set8 (W:World) (b:Nat) (v0 v1 v2 v3 v4 v5 v6 v7:Value):World:=(((((((W.setCell ⟨b,0,none⟩ v0).setCell ⟨b,1,none⟩ v1).setCell ⟨b,2,none⟩ v2).setCell ⟨b,3,none⟩ v3).setCell ⟨b,4,none⟩ v4).setCell ⟨b,5,none⟩ v5).setCell ⟨b,6,none⟩ v6).setCell ⟨b,7,none⟩ v7
theorem xz{W:World}{b j a E k n:Nat}{v u:Value}{cs:List Value}(h:W.ownsRow a E k v n cs)(f:Loc W b 31)(c:E≠31):(W.setCell ⟨b,j,none⟩ u).ownsRow a E k v n cs :=
 qh h (fun _ d=>Below.heap_setCell _ _ _ _ (qu (za h d) f c))
theorem qcb{W:World}{b a E k n:Nat}{v f g i j l m o p:Value}{cs:List Value}(h:W.ownsRow a E k v n cs)(d:Loc W b 31)(c:E≠31):(set8 W b f g i j l m o p).ownsRow a E k v n cs:=by
 have s1:=d.set b 0 f;have s2:=s1.set b 1 g;have s3:=s2.set b 2 i;have s4:=s3.set b 3 j;have s5:=s4.set b 4 l;have s6:=s5.set b 5 m;have s7:=s6.set b 6 o;exact xz (xz (xz (xz (xz (xz (xz (xz h d c) s1 c) s2 c) s3 c) s4 c) s5 c) s6 c) s7 c
theorem jh{w W:World}{b:Nat}{c d f g i j k l:Value}(h:Below w.heap.size w W)(a:w.heap.size<=b):Below w.heap.size w (set8 W b c d f g i j k l) :=
 (((((((h.setCell (p:=⟨b,0,none⟩) a _).setCell (p:=⟨b,1,none⟩) a _).setCell (p:=⟨b,2,none⟩) a _).setCell (p:=⟨b,3,none⟩) a _).setCell (p:=⟨b,4,none⟩) a _).setCell (p:=⟨b,5,none⟩) a _).setCell (p:=⟨b,6,none⟩) a _).setCell (p:=⟨b,7,none⟩) a _
structure OwnSp (W:World) (base:Nat) (h:SHd) (S:Sp) (qs:List (SR × Option Addr × Nat)):Prop where
 nm:W.ownsRow base 9 1 (.slice h.na S.nm.length h.nc) S.nm.length (strC S.nm)
 lv:W.ownsRow base 3 1 (.slice h.la S.lv.length h.lc) S.lv.length (intC S.lv)
 az:W.ownsRow base 3 1 (.slice h.aa S.az.length h.ac) S.az.length (intC S.az)
 rl:W.ownsRow base 56 4 (.slice h.ra S.rs.length h.rc) S.rs.length (srC qs)
 map:qs.map (·.1)=S.rs
 row:∀q∈qs,W.ownsRow base 3 1 (.slice q.2.1 q.1.r.length q.2.2) q.1.r.length (natC q.1.r)
theorem OwnSp.isSp{W:World}{a:Nat}{h:SHd}{S:Sp}{qs:List (SR × Option Addr × Nat)}(s:OwnSp W a h S qs):IsSp W h S :=
 ⟨Row.of_own s.nm,Row.of_own s.lv,Row.of_own s.az,⟨qs,s.map,Row.of_own s.rl,fun q b=>Row.of_own (s.row q b)⟩⟩
theorem OwnSp.step{W c:World}{a:Nat}{h:SHd}{S:Sp}{qs:List (SR × Option Addr × Nat)}(s:OwnSp W a h S qs)(b:Below W.heap.size W c):OwnSp c a h S qs :=
 ⟨zl s.nm b,zl s.lv b,zl s.az b,zl s.rl b,s.map,fun q d=>zl (s.row q d) b⟩
theorem OwnSp.far{W:World}{a b j:Nat}{u:Value}{h:SHd}{S:Sp}{qs:List (SR × Option Addr × Nat)}(s:OwnSp W a h S qs)(c:Loc W b 31):OwnSp (W.setCell ⟨b,j,none⟩ u) a h S qs :=
 ⟨xz s.nm c (by decide),xz s.lv c (by decide),xz s.az c (by decide),xz s.rl c (by decide),s.map,fun q d=>xz (s.row q d) c (by decide)⟩
theorem OwnSp.set8{W:World}{a b:Nat}{h:SHd}{S:Sp}{qs:List (SR × Option Addr × Nat)}{f g i j k l m n:Value}(s:OwnSp W a h S qs)(c:Loc W b 31):OwnSp (set8 W b f g i j k l m n) a h S qs :=
 ⟨qcb s.nm c (by decide),qcb s.lv c (by decide),qcb s.az c (by decide),qcb s.rl c (by decide),s.map,fun q d=>qcb (s.row q d) c (by decide)⟩
theorem SB.own{w W:World}{a:Nat}{h:SHd}{S:Sp}{qs:List (SR × Option Addr × Nat)}(s:SB w W a h S qs):OwnSp W w.heap.size h S qs:=⟨s.nm,s.lv,s.az,s.rl,s.map,s.row⟩
theorem qkk(G:Gm)(k:Nat):(syR G k).nm.length=G.ts.length+1+(lfs (G.rs.take k)).length:=by
 unfold syR tkG;simp;omega
theorem qq9(G:Gm)(k:Nat):(syR G k).nm.drop ((syR G k).tk+1)=lfs (G.rs.take k):=by
 show(tkG G++e0 :: lfs (G.rs.take k)).drop (G.ts.length+1)=_
 have e:tkG G++e0 :: lfs (G.rs.take k)=(tkG G++[e0])++lfs (G.rs.take k):=by simp
 rw[e,List.drop_append_of_le_length (by unfold tkG;simp),List.drop_of_length_le (by unfold tkG;simp)]
 rfl
theorem qcv(rs:List Ru)(k:Nat):(lfs (rs.take k)).length<=k:=by
 have a:=vu (rs.take k)
 have b:(rs.take k).length<=k:=by simp;omega
 omega
theorem qt2{G:Gm}{k:Nat}{r:Ru}(a:G.rs[k]?=some r)(h:r.l∈lfs (G.rs.take k)):syR G (k+1)=syR G k:=by
 unfold syR;rw[qdo a];unfold lfS;rw[if_pos (ve.2 h)]
theorem qsz{G:Gm}{k:Nat}{r:Ru}(a:G.rs[k]?=some r)(h:r.l ∉ lfs (G.rs.take k)):syR G (k+1)=⟨(syR G k).tk,(syR G k).nt,(syR G k).st,(syR G k).ex,(syR G k).nm++[r.l],(syR G k).lv,(syR G k).az,(syR G k).rs⟩:=by
 unfold syR;rw[qdo a];unfold lfS;rw[if_neg (fun e=>h (ve.1 e))];simp
theorem SB.lefts{w W:World}{f:Nat}{h:SHd}{G:Gm}{k:Nat}(s:SB w W f h (syR G k) []):Calls Tryz.prog 148 #[.agg (sC h (syR G k))] W fun e b=>∃a c,e=.returned (.slice a (lfs (G.rs.take k)).length c)/\Row b 1 a (lfs (G.rs.take k)).length c (strC (lfs (G.rs.take k)))/\Below W.heap.size W b:=by
 have d:(syR G k).nm.length - ((syR G k).tk+1)=(lfs (G.rs.take k)).length:=by
  rw[qkk];show _ - (G.ts.length+1)=_;omega
 have:=qet h (syR G k) W s.isSp.nm (by rw[qkk];show G.ts.length+1<=_;omega)
 rw[d,qq9]at this;exact this
theorem qgw(G:Gm)(h:Hd)(w:World)(hG:IsG w h G):Calls Tryz.prog 132 #[gv h G] w fun e Y=>∃f,e=.returned (sv f (sy0 G))/\OwnSp Y w.heap.size f (sy0 G) []/\Below w.heap.size w Y:=by
 have c6:=hG.small.nt;have c7:=hG.small.nr
 have b2:G.ts.length<=h.tc/\h.tc<=9223372036854775807:=by have h1:=hG.tok.le;have h2:=hG.tok.max;unfold maxLen at h2;omega
 have b3:=kv hG.rul;have HG:=hid hG;clear hG;obtain⟨C,q,B,y⟩:=h;simp only at b2 b3;have O:Below w.heap.size w ((w.alloc (.cells #[.slice C G.ts.length q,.string G.s,.int .i64 G.e,.slice B G.rs.length y] 25)).alloc (.cells zC 31)):=qd (qb _ _) (qb _ _);have E:((w.alloc (.cells #[.slice C G.ts.length q,.string G.s,.int .i64 G.e,.slice B G.rs.length y] 25)).alloc (.cells zC 31)).heap[w.heap.size]?=some (.cells #[.slice C G.ts.length q,.string G.s,.int .i64 G.e,.slice B G.rs.length y] 25 (0,0)):=qf (qb _ _) (heap_alloc_new _ _)
 have I:((w.alloc (.cells #[.slice C G.ts.length q,.string G.s,.int .i64 G.e,.slice B G.rs.length y] 25)).alloc (.cells zC 31)).heap[w.heap.size+1]?=some (.cells zC 31 (0,0)):=by
  have:=heap_alloc_new (w.alloc (.cells #[.slice C G.ts.length q,.string G.s,.int .i64 G.e,.slice B G.rs.length y] 25)) (.cells zC 31)
  rwa [qz]at this
 unfold gv;simp only
 obtain⟨g,u⟩:∃g,Hid (G.ts.length=g):=⟨_,rfl⟩
 obtain⟨K,S⟩:∃K,Hid (G.rs.length=K):=⟨_,rfl⟩
 rw[u.out]at c6 b2 O E I ⊢;rw[S.out]at c7 b3 O E I ⊢;go_enter Tryz.func132,Tryz.ntmps132
 go_upto_region 1 with fail
 have ez:(w.alloc (.cells #[.slice C g q,.string G.s,.int .i64 G.e,.slice B K y] 25)).alloc (.cells #[.int .i64 0,.int .i64 0,.int .i64 0,.int .i64 0,.slice none 0 0,.slice none 0 0,.slice none 0 0,.slice none 0 0] 31)=(w.alloc (.cells #[.slice C g q,.string G.s,.int .i64 G.e,.slice B K y] 25)).alloc (.cells zC 31):=rfl;rw[ez];generalize (w.alloc (.cells #[.slice C g q,.string G.s,.int .i64 G.e,.slice B K y] 25)).alloc (.cells zC 31)=W1 at O E I ⊢
 obtain⟨x,a2⟩:∃x,Hid (x=w.heap.size):=⟨_,rfl⟩
 rw[<-a2.out]at E I ⊢
 have p0:W1.cell? ⟨x,0,none⟩=some (.slice C g q):=by rw[qe E];rfl
 have p2:W1.cell? ⟨x,2,none⟩=some (.int .i64 G.e):=by rw[qe E];rfl
 have hv:Below W1.heap.size W1 (W1.alloc (.cells #[.int .i64 (g:Int),.int .i64 0,.int .i64 0,.int .i64 G.e,.slice none 0 0,.slice none 0 0,.slice none 0 0,.slice none 0 0] 31)):=qb _ _
 have H2:Hid (∃f,SX w (W1.alloc (.cells #[.int .i64 (g:Int),.int .i64 0,.int .i64 0,.int .i64 G.e,.slice none 0 0,.slice none 0 0,.slice none 0 0,.slice none 0 0] 31)) x (x+1) W1.heap.size ⟨C,q,B,y⟩ G f (syT G 0)):=by
  refine⟨⟨none,0,none,0,none,0,none,0⟩,SB.first ?_ rfl rfl rfl rfl (qd O hv) O.size,?_,qf hv I,?_⟩
  ·unfold syT sC;rw[u.out];exact heap_alloc_new _ _
  ·rw[u.out,S.out];exact qf hv E
  ·have:=(Array.getElem?_eq_some_iff.1 I).1;omega
 have b0:Hid (w.heap.size<=x+1):=by rw[a2.out];exact Nat.le_succ _
 clear ez O E I hv a2
 go_upto_region 2 with fail
 generalize W1.alloc (.cells #[.int .i64 (g:Int),.int .i64 0,.int .i64 0,.int .i64 G.e,.slice none 0 0,.slice none 0 0,.slice none 0 0,.slice none 0 0] 31)=W2 at H2 ⊢;generalize W1.heap.size=i at H2 ⊢;generalize x+1=j at H2 b0 ⊢;clear p0 p2
 have p0:W2.cell? ⟨x,0,none⟩=some (.slice C g q):=by
  obtain⟨f,s⟩:=H2.out;rw[qe s.gx,u.out];rfl
 go_upto_block 0 with fail
 clear p0
 go_cut [17] (fun s17 wd=>Hid (∃f,SX w wd x j i ⟨C,q,B,y⟩ G f (syT G g)))
 case first =>
  go_wp2_with fail
  go_loopg [17] g (fun kx s17 wr=>∃k:Nat,s17=.int .i64 k/\k<=g/\g - k<=kx/\Hid (∃f,SX w wr x j i ⟨C,q,B,y⟩ G f (syT G k)))
  case atStart=>exact⟨0,rfl,Nat.zero_le _,by omega,H2⟩
  case round =>
   clear H2;obtain⟨k,rfl,hk,hg,J⟩:=hrel
   by_cases a4:k<g
   ·have X:(k:Int)<(g:Int):=by omega
    obtain⟨f,s⟩:=J.out
    obtain⟨t,ht⟩:∃t,G.ts[k]?=some t:=⟨G.ts[k]'(by rw[u.out];exact a4),List.getElem?_eq_getElem _⟩
    obtain⟨b,o,b8,d0,d1,d2⟩:=jd (HG.out.tok.below s.sp.bel) ht;simp only at b8;subst b8;have HT:=hid ht;have hv:Below wr.heap.size wr (wr.alloc (.cells #[.string t.n,.int .i64 t.l,.int .i64 t.a] 40)):=qb _ _
    have D:Hid (SX w (wr.alloc (.cells #[.string t.n,.int .i64 t.l,.int .i64 t.a] 40)) x j i ⟨some ⟨b,o,none⟩,q,B,y⟩ G f (syT G k)/\(wr.alloc (.cells #[.string t.n,.int .i64 t.l,.int .i64 t.a] 40)).heap[wr.heap.size]?=some (.cells #[.string t.n,.int .i64 t.l,.int .i64 t.a] 40 (0,0))):=⟨s.step hv,heap_alloc_new _ _⟩
    clear s J ht hv
    go_upto_region 5 with fail
    obtain⟨b5,a6⟩:∃b5,Hid (b5=wr.heap.size):=⟨_,rfl⟩
    rw[<-a6.out]at D ⊢;generalize wr.alloc (.cells #[.string t.n,.int .i64 t.l,.int .i64 t.a] 40)=V at D ⊢;clear a6 d0 d1 d2
    have e1:(syT G k).nm.length=k:=by unfold syT;simp;have:=u.out;omega
    have e2:(syT G k).lv.length=k:=by unfold syT;simp;have:=u.out;omega
    have e3:(syT G k).az.length=k:=by unfold syT;simp;have:=u.out;omega
    obtain⟨Z,c1,P,A,x1,f1,s1,k1⟩:=D.out.1.addNm t.n (by omega);have b4:=qu ⟨_,D.out.2⟩ ⟨_,D.out.1.sp.box⟩ (by decide);have B1:=k1 b5 40 _ D.out.2 (by decide) b4
    have y0:V.cell? ⟨b5,0,none⟩=some (.string t.n):=by rw[qe D.out.2];rfl
    obtain⟨-,-,-,-,M,-,-,-⟩:=sbox D.out.1.sp.box;rw[e1]at A x1 s1 B1 M
    have N:Hid (SX w (P.setCell ⟨i,4,none⟩ (.slice (some ⟨Z,0,none⟩) (k+1) c1)) x j i ⟨some ⟨b,o,none⟩,q,B,y⟩ G ⟨some ⟨Z,0,none⟩,c1,f.la,f.lc,f.aa,f.ac,f.ra,f.rc⟩ ⟨(syT G k).tk,(syT G k).nt,(syT G k).st,(syT G k).ex,(syT G k).nm++[t.n],(syT G k).lv,(syT G k).az,(syT G k).rs⟩/\(P.setCell ⟨i,4,none⟩ (.slice (some ⟨Z,0,none⟩) (k+1) c1)).heap[b5]?=some (.cells #[.string t.n,.int .i64 t.l,.int .i64 t.a] 40 (0,0))):=⟨s1,B1⟩
    clear s1 B1 k1 D
    go_upto_region 6 with (at_builtin;refine Lib.wpList_append_run _ rfl _ _ _ _ rfl _ _ rfl rfl _ _ A ?_)
    clear A x1 f1 y0 M;generalize P.setCell ⟨i,4,none⟩ (.slice (some ⟨Z,0,none⟩) (k+1) c1)=Q1 at N ⊢;obtain⟨g2,c2,V2,a0,x2,f2,s2,k2⟩:=N.out.1.addLv t.l (by show(syT G k).lv.length<10000;omega)
    have B2:=k2 b5 40 _ N.out.2 (by decide) b4
    have y0:Q1.cell? ⟨b5,1,none⟩=some (.int .i64 t.l):=by rw[qe N.out.2];rfl
    obtain⟨-,-,-,-,-,M,-,-⟩:=sbox N.out.1.sp.box;simp only at a0 x2 s2 B2 M;rw[e2]at a0 x2 s2 B2 M
    have T:Hid (SX w (V2.setCell ⟨i,5,none⟩ (.slice (some ⟨g2,0,none⟩) (k+1) c2)) x j i ⟨some ⟨b,o,none⟩,q,B,y⟩ G ⟨some ⟨Z,0,none⟩,c1,some ⟨g2,0,none⟩,c2,f.aa,f.ac,f.ra,f.rc⟩ ⟨(syT G k).tk,(syT G k).nt,(syT G k).st,(syT G k).ex,(syT G k).nm++[t.n],(syT G k).lv++[t.l],(syT G k).az,(syT G k).rs⟩/\(V2.setCell ⟨i,5,none⟩ (.slice (some ⟨g2,0,none⟩) (k+1) c2)).heap[b5]?=some (.cells #[.string t.n,.int .i64 t.l,.int .i64 t.a] 40 (0,0))):=⟨s2,B2⟩
    clear s2 B2 k2 N
    go_upto_region 7 with (at_builtin;refine Lib.wpList_append_run _ rfl _ _ _ _ rfl _ _ rfl rfl _ _ a0 ?_)
    clear a0 x2 f2 y0 M;generalize V2.setCell ⟨i,5,none⟩ (.slice (some ⟨g2,0,none⟩) (k+1) c2)=Q2 at T ⊢;obtain⟨g3,c3,V3,a5,x3,f3,s3⟩:=T.out.1.addAz t.a (by show(syT G k).az.length<10000;omega)
    have y0:Q2.cell? ⟨b5,2,none⟩=some (.int .i64 t.a):=by rw[qe T.out.2];rfl
    obtain⟨-,-,-,-,-,-,M,-⟩:=sbox T.out.1.sp.box;simp only at a5 x3 s3 M;rw[e3]at a5 x3 s3 M
    have R:Hid (∃f,SX w (V3.setCell ⟨i,6,none⟩ (.slice (some ⟨g3,0,none⟩) (k+1) c3)) x j i ⟨some ⟨b,o,none⟩,q,B,y⟩ G f (syT G (k+1))):=by
     have e:syT G (k+1)=⟨(syT G k).tk,(syT G k).nt,(syT G k).st,(syT G k).ex,(syT G k).nm++[t.n],(syT G k).lv++[t.l],(syT G k).az++[t.a],(syT G k).rs⟩:=by
      unfold syT;rw[zw HT.out];simp
     rw[<-e]at s3;exact⟨_,s3⟩
    clear s3 T;go_wp2_with(at_builtin;refine Lib.wpList_append_run _ rfl _ _ _ _ rfl _ _ rfl rfl _ _ a5 ?_)
    go_roundg (g - (k+1))
    case measure=>omega
    case rel=>exact⟨k+1,by simp,by omega,Nat.le_refl _,R⟩
   ·have X:¬(k:Int)<(g:Int):=by omega
    have R:Hid (∃f,SX w wr x j i ⟨C,q,B,y⟩ G f (syT G g)):=by
     have:k=g:=by omega
     subst this;exact J.out
    clear J;go_wp2_with fail;go_meet;exact R
 case rest =>
  obtain⟨w8,d4⟩:∃w8,w8=wc:=⟨_,rfl⟩
  subst wc;clear H2;obtain⟨h8,s8⟩:=hcut.out
  have e1:(syT G g).nm.length=g:=by unfold syT;simp;have:=u.out;omega
  obtain⟨Z,c1,P,A,x1,f1,s1,-⟩:=s8.addNm ⟨#[]⟩ (by omega);obtain⟨-,-,-,-,M,-,-,-⟩:=sbox s8.sp.box;rw[e1]at A x1 s1 M
  have HS:Hid (∃f,SX w (P.setCell ⟨i,4,none⟩ (.slice (some ⟨Z,0,none⟩) (g+1) c1)) x j i ⟨C,q,B,y⟩ G f (syR G 0)):=by
   have e:syR G 0=⟨(syT G g).tk,(syT G g).nt,(syT G g).st,(syT G g).ex,(syT G g).nm++[⟨#[]⟩],(syT G g).lv,(syT G g).az,(syT G g).rs⟩:=by
    unfold syT syR tkG;rw[show G.ts.take g=G.ts from List.take_of_length_le (by rw[u.out];exact Nat.le_refl _)]
    simp[lfs,e0]
   rw[<-e]at s1;exact⟨_,s1⟩
  clear s1 s8 hcut
  go_upto_region 10 with (at_builtin;refine Lib.wpList_append_run _ rfl _ _ _ _ rfl _ _ rfl rfl _ _ A ?_)
  clear A x1 f1 M;generalize P.setCell ⟨i,4,none⟩ (.slice (some ⟨Z,0,none⟩) (g+1) c1)=Q1 at HS ⊢
  have p3:Q1.cell? ⟨x,3,none⟩=some (.slice B K y):=by
   obtain⟨f,s⟩:=HS.out;rw[qe s.gx,S.out];rfl
  go_wp2_with fail;clear p3
  go_loopg [51] K (fun kx s51 wr=>∃k:Nat,s51=.int .i64 k/\k<=K/\K - k<=kx/\Hid (∃f,SX w wr x j i ⟨C,q,B,y⟩ G f (syR G k)))
  case atStart=>exact⟨0,rfl,Nat.zero_le _,by omega,HS⟩
  case round =>
   clear HS;obtain⟨k,rfl,hk,hg,J⟩:=hrel;obtain⟨f,s⟩:=J.out
   by_cases a4:k<K
   ·have X:(k:Int)<(K:Int):=by omega
    obtain⟨r,hr⟩:∃r,G.rs[k]?=some r:=⟨G.rs[k]'(by rw[S.out];exact a4),List.getElem?_eq_getElem _⟩
    obtain⟨b,o,xa,xc,b6,d0,d1,d2,-⟩:=(HG.out.rul.below s.sp.bel).at hr;simp only at b6;subst b6;have HT:=hid hr;have hv:Below wr.heap.size wr (wr.alloc (.cells #[.string r.l,.slice xa r.r.length xc,.string r.p] 42)):=qb _ _
    have D:Hid (SX w (wr.alloc (.cells #[.string r.l,.slice xa r.r.length xc,.string r.p] 42)) x j i ⟨C,q,some ⟨b,o,none⟩,y⟩ G f (syR G k)/\(wr.alloc (.cells #[.string r.l,.slice xa r.r.length xc,.string r.p] 42)).heap[wr.heap.size]?=some (.cells #[.string r.l,.slice xa r.r.length xc,.string r.p] 42 (0,0))):=⟨s.step hv,heap_alloc_new _ _⟩
    clear s J hr hv
    go_upto_region 13 with fail
    obtain⟨b7,a7⟩:∃b7,Hid (b7=wr.heap.size):=⟨_,rfl⟩
    rw[<-a7.out]at D ⊢;generalize wr.alloc (.cells #[.string r.l,.slice xa r.r.length xc,.string r.p] 42)=V at D ⊢;clear a7 d0 d1 d2;obtain⟨bb,b1⟩:=zv (r.l∈lfs (G.rs.take k));have a1:=hid b1;clear b1
    have q7:V.cell? ⟨b7,0,none⟩=some (.string r.l):=by rw[qe D.out.2];rfl
    obtain⟨q0,q1,q2,q3,q4,q5,q6,q8⟩:=sbox D.out.1.sp.box
    obtain⟨m,z⟩:∃m,(lfs (G.rs.take k)).length=m:=⟨_,rfl⟩
    have c5:m<=200:=by have:=qcv G.rs k;omega
    have a9:Hid ((syR G k).nm.length=g+1+m):=by
     show _=_;rw[qkk,z,u.out]
    have H:Hid (Calls Tryz.prog 148 #[.agg (sC f (syR G k))] V.drew fun e Y=>∃L c,e=.returned (.slice L m c)/\Row Y 1 L m c (strC (lfs (G.rs.take k)))/\Below V.heap.size V Y):=by
     have:=(D.out.1.sp.step (qo V)).lefts;rw[z]at this;exact this.mono (fun e Y ⟨L,c,h1,h2,h3⟩=>⟨L,c,h1,h2,qd (qo V) h3⟩)
    have a8:Hid (∀(U:World) (L:Option Addr) (c:Nat),Row U 1 L m c (strC (lfs (G.rs.take k)))->Calls Tryz.prog 147 #[.slice L m c,.string r.l] U fun e Y=>e=.returned (.bool bb)/\Y=U):=fun U L c hU=>by
     have:=yy (lfs (G.rs.take k)) L c r.l U (by rw[z];exact hU) (by rw[z];omega) bb a1.out
     rw[z]at this;exact this
    unfold sC at H;clear z
    go_cut [51,60] from 51 to 68 (fun s51 s60 wd=>s51=.int .i64 (k:Int)/\s60=.bool (!bb)/\Hid (Below V.heap.size V wd))
    case first =>
     go_region_with(first | (go_at_call 148;refine H.out.mono ?_;rintro e P ⟨L,c,rfl,F,hB⟩;have z7:=qt hB q7) | (go_at_call 147;refine(a8.out _ _ _ F).mono ?_;rintro e V2 ⟨rfl,rfl⟩))
     all_goals
      have R:Hid (Below V.heap.size V _):=hB;clear hB F z7;go_wp2_with fail;go_meet;exact⟨rfl,rfl,R⟩
    case rest =>
     obtain⟨rfl,rfl,HB⟩:=hcut
     obtain⟨V3,c9⟩:∃V3,V3=wc:=⟨_,rfl⟩
     subst wc;clear q0 q1 q2 q3 q4 q5 q6 q8 q7 H a8;have s3:=D.out.1.step HB.out
     have q7:V3.cell? ⟨b7,0,none⟩=some (.string r.l):=by rw[qe (qf HB.out D.out.2)];rfl
     cases bb
     ·obtain⟨Z,c1,V4,A,x1,f1,s4,-⟩:=s3.addNm r.l (by rw[a9.out];omega)
      obtain⟨-,-,-,-,M,-,-,-⟩:=sbox s3.sp.box;rw[<-qsz HT.out (fun h=>by have:=a1.out.2 h;cases this)]at s4
      rw[a9.out]at A x1 s4 M
      have R:Hid (∃f,SX w (V4.setCell ⟨i,4,none⟩ (.slice (some ⟨Z,0,none⟩) (g+1+m+1) c1)) x j i ⟨C,q,some ⟨b,o,none⟩,y⟩ G f (syR G (k+1))):=⟨_,s4⟩
      clear s3 s4 D HB
      generalize g+1+m=nl at *
      go_wp2_with(at_builtin;refine Lib.wpList_append_run _ rfl _ _ _ _ rfl _ _ rfl rfl _ _ A ?_)
      go_roundg (K - (k+1))
      case measure=>omega
      case rel=>exact⟨k+1,by simp,by omega,Nat.le_refl _,R⟩
     ·have R:Hid (∃f,SX w V3 x j i ⟨C,q,some ⟨b,o,none⟩,y⟩ G f (syR G (k+1))):=by
       rw[qt2 HT.out (a1.out.1 rfl)];exact⟨_,s3⟩
      clear s3 D HB q7;go_wp2_with fail;go_roundg (K - (k+1))
      case measure=>omega
      case rel=>exact⟨k+1,by simp,by omega,Nat.le_refl _,R⟩
   ·have X:¬(k:Int)<(K:Int):=by omega
    have c4:k=K:=by omega
    subst c4;have a3:=List.take_of_length_le (by rw[S.out];exact Nat.le_refl _)
    obtain⟨q0,q1,q2,q3,q4,q5,q6,q8⟩:=sbox s.sp.box
    obtain⟨m,z⟩:∃m,(lfs (G.rs.take k)).length=m:=⟨_,rfl⟩
    have c5:m<=200:=by have:=qcv G.rs k;omega
    have H:Hid (Calls Tryz.prog 148 #[.agg (sC f (syR G k))] wr fun e Y=>∃L c,e=.returned (.slice L m c)/\Row Y 1 L m c (strC (lfs (G.rs.take k)))/\Below wr.heap.size wr Y):=by
     have:=s.sp.lefts;rw[z]at this;exact this
    unfold sC at H
    have HS:Hid (SX w wr x j i ⟨C,q,B,y⟩ G f (syR G k)/\(lfs G.rs).length=m/\G.rs.take k=G.rs):=⟨s,by rw[<-z,a3],a3⟩
    clear s J z a3;go_wp2_with fail;refine H.out.mono ?_;rintro e P ⟨L,c,rfl,F,hB⟩;have d3:=zk F;clear q0 q1 q2 q3 q4 q5 q6 q8 F H;have s1:=HS.out.1.step hB
    have z1:P.cell? ⟨i,1,none⟩=some (.int .i64 0):=by rw[qe s1.sp.box];rfl
    have b9:=qj s1.sp.box 1;have s2:=s1.sp.putNt m
    have s3:SB w (P.setCell ⟨i,1,none⟩ (.int .i64 (m:Int))) i f (sy0 G) []:=by
     have e:sy0 G=⟨(syR G k).tk,m,(syR G k).st,(syR G k).ex,(syR G k).nm,(syR G k).lv,(syR G k).az,(syR G k).rs⟩:=by
      unfold sy0 syR nmG;rw[HS.out.2.2,HS.out.2.1]
     rw[e];exact s2
    have rx:(P.setCell ⟨i,1,none⟩ (.int .i64 (m:Int))).heap[j]?=some (.cells zC 31 (0,0)):=by
     rw[Below.heap_setCell _ _ _ _ s1.ne];exact s1.rx
    have d:=hid3 s3 rx s1.ne;clear s1 s2 s3 rx hB HS
    go_upto_region 17 with fail
    generalize P.setCell ⟨i,1,none⟩ (.int .i64 (m:Int))=Q at d ⊢;clear z1 b9;obtain⟨q0,q1,q2,q3,q4,q5,q6,q8⟩:=sbox d.out.1.box
    have z0:Q.cell? ⟨j,0,none⟩=some (.int .i64 0):=by rw[qe d.out.2.1];rfl
    have z1:Q.cell? ⟨j,1,none⟩=some (.int .i64 0):=by rw[qe d.out.2.1];rfl
    have z2:Q.cell? ⟨j,2,none⟩=some (.int .i64 0):=by rw[qe d.out.2.1];rfl
    have z3:Q.cell? ⟨j,3,none⟩=some (.int .i64 0):=by rw[qe d.out.2.1];rfl
    have z4:Q.cell? ⟨j,4,none⟩=some (.slice none 0 0):=by rw[qe d.out.2.1];rfl
    have z5:Q.cell? ⟨j,5,none⟩=some (.slice none 0 0):=by rw[qe d.out.2.1];rfl
    have z6:Q.cell? ⟨j,6,none⟩=some (.slice none 0 0):=by rw[qe d.out.2.1];rfl
    have z7:Q.cell? ⟨j,7,none⟩=some (.slice none 0 0):=by rw[qe d.out.2.1];rfl
    have f0:=qj d.out.2.1 0;have f1:=qj d.out.2.1 1;have f2:=qj d.out.2.1 2;have f3:=qj d.out.2.1 3;have f4:=qj d.out.2.1 4;have f5:=qj d.out.2.1 5;have f6:=qj d.out.2.1 6;have f7:=qj d.out.2.1 7
    have R:Hid (∀v0 v1 v2 v3 v4 v5 v6 v7,OwnSp (set8 Q j v0 v1 v2 v3 v4 v5 v6 v7) w.heap.size f (sy0 G) []/\Below w.heap.size w (set8 Q j v0 v1 v2 v3 v4 v5 v6 v7)):=fun v0 v1 v2 v3 v4 v5 v6 v7=>⟨d.out.1.own.set8 ⟨_,d.out.2.1⟩,jh d.out.1.bel b0.out⟩
    obtain⟨r0,c8⟩:∃r0,Hid (((sy0 G).tk:Int)=r0):=⟨_,rfl⟩
    go_wp2_with fail;refine bodyPost_ret (v:=sv f (sy0 G)) (by unfold sv sC;simp[results,Tryz.results132,go_sem, *]) rfl ?_
    exact⟨f,rfl,R.out _ _ _ _ _ _ _ _⟩
structure Of0 (G:Gm) (S:Sp):Prop where
 tk:S.tk=G.ts.length
 nm:S.nm=nmG G
 lv:S.lv=G.ts.map (·.l)
 az:S.az=G.ts.map (·.a)
structure RO (w W:World) (b2 b3 b4 b5:Nat) (c2 c3:Array Value) (l:Int) (ys:List Nat) (xa:Option Addr) (xc:Nat):Prop where
 x2:W.heap[b2]?=some (.cells c2 42 (0,0))
 x3:W.heap[b3]?=some (.cells c3 31 (0,0))
 x4:W.heap[b4]?=some (.cells #[.int .i64 0,.slice none 0 0,.int .i64 0,.int .i64 0] 56 (0,0))
 x5:W.heap[b5]?=some (.cells #[.int .i64 l,.slice xa ys.length xc,.int .i64 0,.int .i64 0] 56 (0,0))
 own:W.ownsRow w.heap.size 3 1 (.slice xa ys.length xc) ys.length (natC ys)
 bel:Below w.heap.size w W
 ne:b4≠b5
 n5:w.heap.size<=b5
theorem RO.step{w W b:World}{c d f g:Nat}{c2 h:Array Value}{l:Int}{k:List Nat}{i:Option Addr}{j:Nat}(s:RO w W c d f g c2 h l k i j)(a:Below W.heap.size W b):RO w b c d f g c2 h l k i j :=
 ⟨qf a s.x2,qf a s.x3,qf a s.x4,qf a s.x5,zl s.own a,qd s.bel a,s.ne,s.n5⟩
theorem RO.add{w W:World}{o q x a:Nat}{c2 z:Array Value}{l:Int}{j:List Nat}{t:Option Addr}{v:Nat}(s:RO w W o q x a c2 z l j t v)(y:Nat)(K:j.length<1000):
  ∃g c f,(Builtin.append_ #[28,28] 28 #[.slice t j.length v,.slice (some ⟨W.heap.size,0,none⟩) 1 1]).run Tryz.prog (W.alloc (.cells #[.int .i64 (y:Int)] 3))=.ok (.slice (some ⟨g,0,none⟩) (j.length+1) c) f /\
   f.cell? ⟨a,1,none⟩=some (.slice t j.length v)/\f.frozen? ⟨a,1,none⟩=false/\RO w (f.setCell ⟨a,1,none⟩ (.slice (some ⟨g,0,none⟩) (j.length+1) c)) o q x a c2 z l (j++[y]) (some ⟨g,0,none⟩) c:=by
 obtain⟨g,c,f,H,B,A,J⟩:=xy (us:=[.int .i64 (y:Int)]) u29 i3 rfl (by decide) (by decide) rfl (fun u C=>by rw[List.mem_singleton]at C;subst C;rfl) s.own s.bel.size (by omega)
 have m:=((Kept.refl _ W).alloc _).trans A (fun k _ e=>ze e)
 have n:∀{b T:Nat} {d:Array Value},W.heap[b]?=some (.cells d T (0,0))->T≠3->f.heap[b]?=some (.cells d T (0,0)):=fun r F=>by
  rw[m.block _ (Array.getElem?_eq_some_iff.1 r).1 (fun e=>qu ⟨_,r⟩ (qw s.own e).2.2 F rfl)];exact r
 have D:=n s.x2 (by decide);have E:=n s.x3 (by decide);have I:=n s.x4 (by decide);have h:=n s.x5 (by decide);refine⟨g,c,f,H,by rw[qe h];rfl,qj h 1,?_,?_,?_,?_,?_,?_,s.ne,s.n5⟩
 ·exact(Below.heap_setCell _ _ _ _ (show o≠a from qu ⟨_,D⟩ ⟨_,h⟩ (by decide))).trans D
 ·exact(Below.heap_setCell _ _ _ _ (show q≠a from qu ⟨_,E⟩ ⟨_,h⟩ (by decide))).trans E
 ·exact(Below.heap_setCell _ _ _ _ s.ne).trans I
 ·rw[setCell_eq_setRow f a 1 _ 56 (0,0) _ h,setRow_heap _ _ _ _ 56 _ h,List.length_append];rfl
 ·rw[jk,List.length_append]
  exact qh B (fun i G=>by
   cases G
   exact Below.heap_setCell _ _ _ _ (qu (za B rfl) ⟨_,h⟩ (by decide)))
 ·refine(s.bel.trans (m.below s.bel.size (fun k A e=>?_))).setCell (p:=⟨a,1,none⟩) s.n5 _;have:=(qw s.own e).1;omega
def bO (G:Gm) (r:Ru) (k:Nat):Option Nat:=if r.p=e0 then byL G (r.r.take k) else zh (tkG G) r.p
theorem qt3(G:Gm)(r:Ru):bO G r r.r.length=byG G r:=by
 unfold bO byG;rw[List.take_of_length_le (Nat.le_refl _)]
theorem qs4{G:Gm}(a:MayP G)(r:Ru):bO G r 0=zh (tkG G) r.p:=by
 unfold bO
 split
 ·rename_i h;rw[h];have:zh (tkG G) e0=none:=qd5 (fun h=>qsx a h rfl);rw[this];rfl
 ·rfl
structure RD7 (w W:World) (b4 b5:Nat) (l:Int) (ys:List Nat) (lv a:Int) (xa:Option Addr) (xc:Nat):Prop where
 x4:W.heap[b4]?=some (.cells #[.int .i64 0,.slice none 0 0,.int .i64 0,.int .i64 0] 56 (0,0))
 x5:W.heap[b5]?=some (.cells #[.int .i64 l,.slice xa ys.length xc,.int .i64 lv,.int .i64 a] 56 (0,0))
 own:W.ownsRow w.heap.size 3 1 (.slice xa ys.length xc) ys.length (natC ys)
 bel:Below w.heap.size w W
theorem RO.done{w W:World}{g h a b:Nat}{c2 i:Array Value}{l:Int}{f:List Nat}{c:Option Addr}{d:Nat}(s:RO w W g h a b c2 i l f c d):RD7 w W a b l f 0 0 c d:=⟨s.x4,s.x5,s.own,s.bel⟩
theorem RD7.put2{w W:World}{c b:Nat}{l:Int}{h:List Nat}{m a:Int}{f:Option Addr}{g:Nat}(s:RD7 w W c b l h m a f g)(d:c≠b)(k:w.heap.size<=b)(z:Int):RD7 w (W.setCell ⟨b,2,none⟩ (.int .i64 z)) c b l h z a f g:=by
 refine⟨(Below.heap_setCell _ _ _ _ d).trans s.x4,?_,qh s.own (fun i j=>Below.heap_setCell _ _ _ _ (qu (za s.own j) ⟨_,s.x5⟩ (by decide))),s.bel.setCell (p:=⟨b,2,none⟩) k _⟩;rw[setCell_eq_setRow W b 2 _ 56 (0,0) _ s.x5,setRow_heap _ _ _ _ 56 _ s.x5];rfl
theorem RD7.put3{w W:World}{c b:Nat}{l:Int}{j:List Nat}{f a:Int}{g:Option Addr}{h:Nat}(s:RD7 w W c b l j f a g h)(d:c≠b)(m:w.heap.size<=b)(z:Int):RD7 w (W.setCell ⟨b,3,none⟩ (.int .i64 z)) c b l j f z g h:=by
 refine⟨(Below.heap_setCell _ _ _ _ d).trans s.x4,?_,qh s.own (fun i k=>Below.heap_setCell _ _ _ _ (qu (za s.own k) ⟨_,s.x5⟩ (by decide))),s.bel.setCell (p:=⟨b,3,none⟩) m _⟩;rw[setCell_eq_setRow W b 3 _ 56 (0,0) _ s.x5,setRow_heap _ _ _ _ 56 _ s.x5];rfl
theorem vg{W:World}{b j a E k n:Nat}{v u:Value}{cs:List Value}(h:W.ownsRow a E k v n cs)(f:Loc W b 56)(c:E≠56):(W.setCell ⟨b,j,none⟩ u).ownsRow a E k v n cs :=
 qh h (fun _ d=>Below.heap_setCell _ _ _ _ (qu (za h d) f c))
theorem qdq{W:World}{b T:Nat}{a c d f:Value}(h:W.heap[b]?=some (.cells #[a,c,d,f] T (0,0))):
  W.cell? ⟨b,0,none⟩=some a/\W.cell? ⟨b,1,none⟩=some c/\W.cell? ⟨b,2,none⟩=some d/\W.cell? ⟨b,3,none⟩=some f/\W.frozen? ⟨b,0,none⟩=false/\W.frozen? ⟨b,1,none⟩=false/\W.frozen? ⟨b,2,none⟩=false/\W.frozen? ⟨b,3,none⟩=false :=
 ⟨by rw[qe h];rfl,by rw[qe h];rfl,by rw[qe h];rfl,by rw[qe h];rfl,qj h 0,qj h 1,qj h 2,qj h 3⟩
theorem qif(w:World)(a b c:Obj):Below w.heap.size w (((w.alloc a).alloc b).alloc c)/\(((w.alloc a).alloc b).alloc c).heap[w.heap.size]?=some a/\(((w.alloc a).alloc b).alloc c).heap[w.heap.size+1]?=some b/\(((w.alloc a).alloc b).alloc c).heap[w.heap.size+1+1]?=some c/\(((w.alloc a).alloc b).alloc c).heap.size=w.heap.size+1+1+1:=by
 have g:=heap_alloc_new w a;have d:=heap_alloc_new (w.alloc a) b;have f:=heap_alloc_new ((w.alloc a).alloc b) c;rw[qz]at d;rw[qz,qz]at f;exact⟨qd (qd (qb _ _) (qb _ _)) (qb _ _),qf (qb _ _) (qf (qb _ _) g),qf (qb _ _) d,f,by rw[qz,qz,qz]⟩
theorem qkl(G:Gm)(S:Sp)(h:SHd)(w:World)(a0:IsSp w h S)(ho:Of0 G S)(hm:MayP G)(h4:G.ts.length<=100)(i2:G.rs.length<=200)(hn:NmP G)(r:Ru)(hr:r∈G.rs)(L:Option Addr)(I:Nat)(H:Row w 1 L r.r.length I (strC r.r)):
  Calls Tryz.prog 154 #[.agg #[.string r.l,.slice L r.r.length I,.string r.p],.agg (sC h S)] w fun e M=>∃C D,e=.returned (.agg #[.int .i64 (ruG G r).l,.slice C (ruG G r).r.length D,.int .i64 (ruG G r).lv,.int .i64 (ruG G r).a])/\M.ownsRow w.heap.size 3 1 (.slice C (ruG G r).r.length D) (ruG G r).r.length (natC (ruG G r).r)/\Below w.heap.size w M:=by
 have h3:=(hm.rl r hr).2.1;have h6:=zk H
 have g1:S.nm.length=(nmG G).length:=by rw[ho.nm]
 have g2:(nmG G).length<=400:=by rw[jt];have:=vu G.rs;omega
 have z:=hid6 a0 ho hm hn hr H
 have a3:Hid (∀(V:World) (s:ByteArray),Below w.heap.size w V->Calls Tryz.prog 135 #[.slice h.na S.nm.length h.nc,.string s] V fun e M=>e=.returned (.int .i64 (idxI (zh (nmG G) s)))/\M=V):=fun V s hV=>by
  have h1:=(a0.below hV).nm;rw[ho.nm]at h1 ⊢;exact qa3 (nmG G) h.na h.nc s V h1 (by omega)
 have h2:=zk a0.nm
 have a4:Hid (∀V:World,Below w.heap.size w V->Calls Tryz.prog 152 #[.agg (sC h S)] V fun e M=>e=.returned (.slice h.na S.tk h.nc)/\Row M 1 h.na S.tk h.nc (strC (tkG G))/\Below V.heap.size V M):=fun V hV=>by
  have:=qes h S V (a0.below hV).nm (by rw[ho.tk,ho.nm,jt];omega)
  have e:S.nm.take S.tk=tkG G:=by
   rw[ho.nm,ho.tk];unfold nmG;rw[List.take_append_of_le_length (by unfold tkG;simp),List.take_of_length_le (by unfold tkG;simp)]
  rw[e]at this;exact this
 have a2:Hid (∀(V:World),Row V 1 h.na S.tk h.nc (strC (tkG G))->Calls Tryz.prog 135 #[.slice h.na S.tk h.nc,.string r.p] V fun e M=>e=.returned (.int .i64 (idxI (zh (tkG G) r.p)))/\M=V):=fun V hV=>by
  have e:S.tk=(tkG G).length:=by rw[ho.tk];unfold tkG;simp
  rw[e]at hV ⊢;exact qa3 (tkG G) h.na h.nc r.p V hV (by unfold tkG;simp;omega)
 have F:Hid (Below w.heap.size w (((w.alloc (.cells #[.string r.l,.slice L r.r.length I,.string r.p] 42)).alloc (.cells (sC h S) 31)).alloc (.cells #[.int .i64 0,.slice none 0 0,.int .i64 0,.int .i64 0] 56))/\(((w.alloc (.cells #[.string r.l,.slice L r.r.length I,.string r.p] 42)).alloc (.cells (sC h S) 31)).alloc (.cells #[.int .i64 0,.slice none 0 0,.int .i64 0,.int .i64 0] 56)).heap[w.heap.size]?=some (.cells #[.string r.l,.slice L r.r.length I,.string r.p] 42 (0,0))/\(((w.alloc (.cells #[.string r.l,.slice L r.r.length I,.string r.p] 42)).alloc (.cells (sC h S) 31)).alloc (.cells #[.int .i64 0,.slice none 0 0,.int .i64 0,.int .i64 0] 56)).heap[w.heap.size+1]?=some (.cells (sC h S) 31 (0,0))/\(((w.alloc (.cells #[.string r.l,.slice L r.r.length I,.string r.p] 42)).alloc (.cells (sC h S) 31)).alloc (.cells #[.int .i64 0,.slice none 0 0,.int .i64 0,.int .i64 0] 56)).heap[w.heap.size+1+1]?=some (.cells #[.int .i64 0,.slice none 0 0,.int .i64 0,.int .i64 0] 56 (0,0))/\(((w.alloc (.cells #[.string r.l,.slice L r.r.length I,.string r.p] 42)).alloc (.cells (sC h S) 31)).alloc (.cells #[.int .i64 0,.slice none 0 0,.int .i64 0,.int .i64 0] 56)).heap.size=w.heap.size+1+1+1):=qif w _ _ _;clear a0 ho hm hn hr H
 obtain⟨K,f5⟩:∃K,Hid (S.nm.length=K):=⟨_,rfl⟩
 obtain⟨B,X⟩:∃B,Hid (r.r.length=B):=⟨_,rfl⟩
 obtain⟨d,n⟩:∃d,Hid (S.tk=d):=⟨_,rfl⟩
 have e3:sC h S=#[.int .i64 (d:Int),.int .i64 (S.nt:Int),.int .i64 (S.st:Int),.int .i64 S.ex,.slice h.na K h.nc,.slice h.la S.lv.length h.lc,.slice h.aa S.az.length h.ac,.slice h.ra S.rs.length h.rc]:=by unfold sC;rw[f5.out,n.out]
 have b6:S.lv.length=d:=by rw[z.out.2.1.lv,List.length_map,<-z.out.2.1.tk];exact n.out
 have b0:S.az.length=d:=by rw[z.out.2.1.az,List.length_map,<-z.out.2.1.tk];exact n.out
 rw[b6,b0]at e3;have g9:=zk z.out.1.lv;have h0:=zk z.out.1.az;rw[b6]at g9;rw[b0]at h0
 have i0:d<=100:=by rw[<-n.out,z.out.2.1.tk];exact h4
 rw[f5.out]at a3 h2 g1;rw[n.out]at a4 a2;rw[X.out]at h3 h6 F ⊢;rw[e3]at a4 F ⊢
 have h8:K<=400:=by omega
 clear e3 b6 b0 g1 g2
 generalize S.rs.length=T at *
 go_enter Tryz.func154,Tryz.ntmps154
 go_upto_region 1 with fail
 generalize ((w.alloc (.cells #[.string r.l,.slice L B I,.string r.p] 42)).alloc (.cells #[.int .i64 (d:Int),.int .i64 (S.nt:Int),.int .i64 (S.st:Int),.int .i64 S.ex,.slice h.na K h.nc,.slice h.la d h.lc,.slice h.aa d h.ac,.slice h.ra T h.rc] 31)).alloc (.cells #[.int .i64 0,.slice none 0 0,.int .i64 0,.int .i64 0] 56)=W1 at F ⊢
 obtain⟨E,a1⟩:∃E,Hid (E=w.heap.size):=⟨_,rfl⟩
 rw[<-a1.out]at F ⊢
 have q:Hid (Below w.heap.size w W1/\W1.heap[E]?=some (.cells #[.string r.l,.slice L B I,.string r.p] 42 (0,0))/\W1.heap[E+1]?=some (.cells #[.int .i64 (d:Int),.int .i64 (S.nt:Int),.int .i64 (S.st:Int),.int .i64 S.ex,.slice h.na K h.nc,.slice h.la d h.lc,.slice h.aa d h.ac,.slice h.ra T h.rc] 31 (0,0))/\W1.heap[E+1+1]?=some (.cells #[.int .i64 0,.slice none 0 0,.int .i64 0,.int .i64 0] 56 (0,0))/\W1.heap.size=E+1+1+1/\w.heap.size<=E+1+1):=⟨by rw[<-a1.out];exact F.out.1,F.out.2.1,F.out.2.2.1,F.out.2.2.2.1,F.out.2.2.2.2,by rw[a1.out];omega⟩
 clear F a1
 generalize E+1=t at *
 obtain⟨f,c8⟩:∃f,Hid (f=t+1):=⟨_,rfl⟩
 rw[<-c8.out]at q ⊢
 have c4:W1.cell? ⟨t,4,none⟩=some (.slice h.na K h.nc):=by rw[qe q.out.2.2.1];rfl
 have c0:W1.cell? ⟨E,0,none⟩=some (.string r.l):=by rw[qe q.out.2.1];rfl
 have d9:Hid (idxI (zh (nmG G) r.l)=(ruG G r).l):=by
  have hx:=qby (G:=G) (.inr (qc6.2 ⟨r,z.out.2.2.2.2.1,rfl⟩));show _=_;rw[qc7 hx];rfl
 go_wp2_with fail;refine(a3.out _ _ q.out.1).mono ?_;rintro e V ⟨rfl,rfl⟩
 obtain⟨l,HL⟩:∃l,Hid (idxI (zh (nmG G) r.l)=l):=⟨_,rfl⟩
 rw[HL.out]at d9 ⊢;have hv:Below V.heap.size V (V.alloc (.cells #[.int .i64 l,.slice none 0 0,.int .i64 0,.int .i64 0] 56)):=qb _ _
 have P:Hid (RO w (V.alloc (.cells #[.int .i64 l,.slice none 0 0,.int .i64 0,.int .i64 0] 56)) E t f V.heap.size #[.string r.l,.slice L B I,.string r.p] #[.int .i64 (d:Int),.int .i64 (S.nt:Int),.int .i64 (S.st:Int),.int .i64 S.ex,.slice h.na K h.nc,.slice h.la d h.lc,.slice h.aa d h.ac,.slice h.ra T h.rc] l [] none 0) :=
  ⟨qf hv q.out.2.1,qf hv q.out.2.2.1,qf hv q.out.2.2.2.1,heap_alloc_new _ _,World.ownsRow_nil _ _ _ _,qd q.out.1 hv,by rw[q.out.2.2.2.2.1];omega,q.out.1.size⟩
 clear hv c4 c0
 go_upto_region 2 with fail
 generalize V.alloc (.cells #[.int .i64 l,.slice none 0 0,.int .i64 0,.int .i64 0] 56)=Q at P ⊢
 obtain⟨m,d8⟩:∃m,Hid (m=V.heap.size):=⟨_,rfl⟩
 rw[<-d8.out]at P ⊢;have c9:=hid q.out.2.2.2.2.2;clear d8 q HL c8
 have c2:Q.cell? ⟨E,2,none⟩=some (.string r.p):=by rw[qe P.out.x2];rfl
 obtain⟨d0,d1,d2,d3,d4,d5,d6,d7⟩:Q.cell? ⟨t,0,none⟩=some (.int .i64 (d:Int))/\Q.cell? ⟨t,1,none⟩=some (.int .i64 (S.nt:Int))/\Q.cell? ⟨t,2,none⟩=some (.int .i64 (S.st:Int))/\Q.cell? ⟨t,3,none⟩=some (.int .i64 S.ex)/\Q.cell? ⟨t,4,none⟩=some (.slice h.na K h.nc)/\Q.cell? ⟨t,5,none⟩=some (.slice h.la d h.lc)/\Q.cell? ⟨t,6,none⟩=some (.slice h.aa d h.ac)/\Q.cell? ⟨t,7,none⟩=some (.slice h.ra T h.rc) :=
  ⟨by rw[qe P.out.x3];rfl,by rw[qe P.out.x3];rfl,by rw[qe P.out.x3];rfl,by rw[qe P.out.x3];rfl,by rw[qe P.out.x3];rfl,by rw[qe P.out.x3];rfl,by rw[qe P.out.x3];rfl,by rw[qe P.out.x3];rfl⟩
 have HZ:=hid ((qs4 z.out.2.2.1 r).symm);rw[HZ.out]at a2
 go_cut [6] (fun s6 wd=>s6=.int .i64 (idxI (bO G r 0))/\Hid (RO w wd E t f m #[.string r.l,.slice L B I,.string r.p] #[.int .i64 (d:Int),.int .i64 (S.nt:Int),.int .i64 (S.st:Int),.int .i64 S.ex,.slice h.na K h.nc,.slice h.la d h.lc,.slice h.aa d h.ac,.slice h.ra T h.rc] l [] none 0))
 case first =>
  go_region_with(first | (go_at_call 152;refine(a4.out _ (qd P.out.bel (qo _))).mono ?_;rintro e V1 ⟨rfl,H,hB⟩;have z2:V1.cell? ⟨E,2,none⟩=some (.string r.p):=qt hB c2) | (go_at_call 135;refine(a2.out _ H).mono ?_;rintro e V2 ⟨rfl,rfl⟩))
  all_goals
   have U:Hid (RO w _ E t f m #[.string r.l,.slice L B I,.string r.p] #[.int .i64 (d:Int),.int .i64 (S.nt:Int),.int .i64 (S.st:Int),.int .i64 S.ex,.slice h.na K h.nc,.slice h.la d h.lc,.slice h.aa d h.ac,.slice h.ra T h.rc] l [] none 0):=(P.out.step (qo _)).step hB;clear hB H z2;go_wp2_with fail;go_meet;exact⟨rfl,U⟩
 case rest =>
  obtain⟨rfl,R0⟩:=hcut
  obtain⟨w5,i5⟩:∃w5,w5=wc:=⟨_,rfl⟩
  subst wc;clear c2 d0 d1 d2 d3 d4 d5 d6 d7 P a4 a2
  have c1:w5.cell? ⟨E,1,none⟩=some (.slice L B I):=by rw[qe R0.out.x2];rfl
  go_upto_block 0 with fail
  clear c1
  go_cut [6,24] (fun s6 s24 wd=>s6=.int .i64 (idxI (byG G r))/\Hid (∃C D,RO w wd E t f m #[.string r.l,.slice L B I,.string r.p] #[.int .i64 (d:Int),.int .i64 (S.nt:Int),.int .i64 (S.st:Int),.int .i64 S.ex,.slice h.na K h.nc,.slice h.la d h.lc,.slice h.aa d h.ac,.slice h.ra T h.rc] l (ruG G r).r C D))
  case first =>
   go_wp2_with fail
   go_loopg [6,24] B (fun kx s6 s24 wr=>∃k:Nat,s6=.int .i64 (idxI (bO G r k))/\s24=.int .i64 k/\k<=B/\B - k<=kx/\Hid (∃C D,RO w wr E t f m #[.string r.l,.slice L B I,.string r.p] #[.int .i64 (d:Int),.int .i64 (S.nt:Int),.int .i64 (S.st:Int),.int .i64 S.ex,.slice h.na K h.nc,.slice h.la d h.lc,.slice h.aa d h.ac,.slice h.ra T h.rc] l ((r.r.take k).map (ix (nmG G))) C D))
   case atStart=>exact⟨0,rfl,rfl,Nat.zero_le _,by omega,(⟨_,_,R0.out⟩:∃C D,RO w w5 E t f m #[.string r.l,.slice L B I,.string r.p] #[.int .i64 (d:Int),.int .i64 (S.nt:Int),.int .i64 (S.st:Int),.int .i64 S.ex,.slice h.na K h.nc,.slice h.la d h.lc,.slice h.aa d h.ac,.slice h.ra T h.rc] l ((r.r.take 0).map (ix (nmG G))) C D)⟩
   case round =>
    clear R0;obtain⟨k,rfl,rfl,hk,hg,J⟩:=hrel
    by_cases g8:k<B
    ·have g0:(k:Int)<(B:Int):=by omega
     obtain⟨C,D,s⟩:=J.out
     obtain⟨x,hx⟩:∃x,r.r[k]?=some x:=⟨r.r[k]'(by rw[X.out];exact g8),List.getElem?_eq_getElem _⟩
     obtain⟨b,o,h5,q0⟩:=jy (z.out.2.2.2.2.2.below s.bel) hx;subst h5;have b8:=qby (z.out.2.2.2.1.rr r z.out.2.2.2.2.1 x (List.mem_of_getElem? hx));have a6:=hid hx
     have c4:wr.cell? ⟨t,4,none⟩=some (.slice h.na K h.nc):=by rw[qe s.x3];rfl
     have a5:Hid (Calls Tryz.prog 135 #[.slice h.na K h.nc,.string x] wr fun e M=>e=.returned (.int .i64 ((ix (nmG G) x:Nat):Int))/\M=wr):=by
      have:=a3.out wr x s.bel;rw[qc7 b8]at this;exact this
     obtain⟨y,HY⟩:∃y,Hid (ix (nmG G) x=y):=⟨_,rfl⟩
     rw[HY.out]at a5
     have i8:y<=1000:=by
      have:=qe1 b8;rw[HY.out,jt]at this;have:=vu G.rs;omega
     have a8:((r.r.take k).map (ix (nmG G))).length=k:=by rw[List.length_map,List.length_take,X.out];omega
     obtain⟨g,c,V1,b7,x1,f1,s1⟩:=s.add y (by omega)
     have c1:wr.cell? ⟨m,1,none⟩=some (.slice C k D):=by rw[qe s.x5,a8];rfl
     rw[a8]at b7 x1 s1
     have Y:Hid (RO w (V1.setCell ⟨m,1,none⟩ (.slice (some ⟨g,0,none⟩) (k+1) c)) E t f m #[.string r.l,.slice (some ⟨b,o,none⟩) B I,.string r.p] #[.int .i64 (d:Int),.int .i64 (S.nt:Int),.int .i64 (S.st:Int),.int .i64 S.ex,.slice h.na K h.nc,.slice h.la d h.lc,.slice h.aa d h.ac,.slice h.ra T h.rc] l ((r.r.take (k+1)).map (ix (nmG G))) (some ⟨g,0,none⟩) c):=by
      have e:(r.r.take (k+1)).map (ix (nmG G))=(r.r.take k).map (ix (nmG G))++[y]:=by rw[zw a6.out,List.map_append,<-HY.out];rfl
      rw[e];exact s1
     clear s s1 J hx b8 a8
     go_upto_region 8 with (first | (go_at_call 135;refine a5.out.mono ?_;rintro e V2 ⟨rfl,rfl⟩) | (at_builtin;refine Lib.wpList_append_run _ rfl _ _ _ _ rfl _ _ rfl rfl _ _ b7 ?_))
     generalize V1.setCell ⟨m,1,none⟩ (.slice (some ⟨g,0,none⟩) (k+1) c)=Q1 at Y ⊢;clear b7 x1 f1 c1 c4 q0 a5
     have z2:Q1.cell? ⟨E,2,none⟩=some (.string r.p):=by rw[qe Y.out.x2];rfl
     have z0:Q1.cell? ⟨t,0,none⟩=some (.int .i64 (d:Int)):=by rw[qe Y.out.x3];rfl
     have U:Hid (∃C D,RO w Q1 E t f m #[.string r.l,.slice (some ⟨b,o,none⟩) B I,.string r.p] #[.int .i64 (d:Int),.int .i64 (S.nt:Int),.int .i64 (S.st:Int),.int .i64 S.ex,.slice h.na K h.nc,.slice h.la d h.lc,.slice h.aa d h.ac,.slice h.ra T h.rc] l ((r.r.take (k+1)).map (ix (nmG G))) C D):=⟨_,_,Y.out⟩
     clear Y
     by_cases hp:r.p=e0
     ·have hb:=(zy r.p).2 hp
      by_cases g3:y<d
      ·have g4:(y:Int)<(d:Int):=by omega
       have HE:Hid (bO G r (k+1)=some y):=by
        show _=_;unfold bO;rw[if_pos hp,zw a6.out,qdp];unfold byS;rw[HY.out,if_pos (by rw[<-z.out.2.1.tk,n.out];exact g3)]
       clear hp;go_wp2_with fail;go_roundg (B - (k+1))
       case measure=>omega
       case rel=>exact⟨k+1,by rw[HE.out];rfl,by simp,by omega,Nat.le_refl _,U⟩
      ·have g4:¬(y:Int)<(d:Int):=by omega
       have HE:Hid (bO G r (k+1)=bO G r k):=by
        show _=_;unfold bO;rw[if_pos hp,if_pos hp,zw a6.out,qdp];unfold byS;rw[HY.out,if_neg (by rw[<-z.out.2.1.tk,n.out];exact g3)]
       clear hp;go_wp2_with fail;go_roundg (B - (k+1))
       case measure=>omega
       case rel=>exact⟨k+1,by rw[HE.out],by simp,by omega,Nat.le_refl _,U⟩
     ·have hb:(r.p.toList == [])=false:=by
       cases hq:(r.p.toList == [])
       ·rfl
       ·exact absurd ((zy r.p).1 hq) hp
      have HE:Hid (bO G r (k+1)=bO G r k):=by
       show _=_;unfold bO;rw[if_neg hp,if_neg hp]
      clear hp;go_wp2_with fail;go_roundg (B - (k+1))
      case measure=>omega
      case rel=>exact⟨k+1,by rw[HE.out],by simp,by omega,Nat.le_refl _,U⟩
    ·have g0:¬(k:Int)<(B:Int):=by omega
     have HE:Hid (bO G r k=byG G r):=by
      have e:k=r.r.length:=by rw[X.out];omega
      rw[e];exact qt3 G r
     have U:Hid (∃C D,RO w wr E t f m #[.string r.l,.slice L B I,.string r.p] #[.int .i64 (d:Int),.int .i64 (S.nt:Int),.int .i64 (S.st:Int),.int .i64 S.ex,.slice h.na K h.nc,.slice h.la d h.lc,.slice h.aa d h.ac,.slice h.ra T h.rc] l (ruG G r).r C D):=by
      have e:(r.r.take k).map (ix (nmG G))=(ruG G r).r:=by rw[List.take_of_length_le (by rw[X.out];omega)];rfl
      rw[<-e];exact J.out
     clear J;go_wp2_with fail;go_meet;exact⟨by rw[HE.out],U⟩
  case rest =>
   obtain⟨rfl,R1⟩:=hcut
   obtain⟨w6,i6⟩:∃w6,w6=wc:=⟨_,rfl⟩
   subst wc;clear R0 a3;obtain⟨C,D,s⟩:=R1.out;have N:=hid s;clear s R1
   obtain⟨zz,a7⟩:∃zz,Hid (idxI (byG G r)=zz):=⟨_,rfl⟩
   rw[a7.out]
   go_upto_if 50 with fail
   go_cut [49] (fun s49 wd=>Hid (RD7 w wd f m l (ruG G r).r (ruG G r).lv (ruG G r).a C D))
   case first =>
    have f4:Hid ((ruG G r).lv=lvO G.ts (byG G r)/\(ruG G r).a=azO G.ts (byG G r)):=⟨rfl,rfl⟩
    cases O:byG G r with
    | none =>
     have U:Hid (RD7 w w6 f m l (ruG G r).r (ruG G r).lv (ruG G r).a C D):=by
      have h1:=f4.out;rw[O]at h1;rw[h1.1,h1.2];exact N.out.done
     have hz:¬(0:Int)<=zz:=by rw[<-a7.out,O];decide
     clear O;go_wp2_with fail;go_meet;exact U
    | some j =>
     have hj:j<G.ts.length:=qpi O
     obtain⟨u,hu⟩:∃u,G.ts[j]?=some u:=⟨G.ts[j],List.getElem?_eq_getElem hj⟩
     have q5:w6.cell? ⟨t,5,none⟩=some (.slice h.la d h.lc):=by rw[qe N.out.x3];rfl
     have q6:w6.cell? ⟨t,6,none⟩=some (.slice h.aa d h.ac):=by rw[qe N.out.x3];rfl
     obtain⟨b,o,b1,v5⟩:=qc2 (z.out.1.lv.below N.out.bel) (i:=j) (x:=u.l) (by rw[z.out.2.1.lv,List.getElem?_map,hu];rfl)
     obtain⟨b',o',a9,v6⟩:=qc2 (z.out.1.az.below N.out.bel) (i:=j) (x:=u.a) (by rw[z.out.2.1.az,List.getElem?_map,hu];rfl)
     have g7:b<w.heap.size:=by
      obtain⟨b9,o9,h9,v9⟩:=qc2 z.out.1.lv (i:=j) (x:=u.l) (by rw[z.out.2.1.lv,List.getElem?_map,hu];rfl)
      rw[b1]at h9
      cases h9
      exact World.block_lt_of_cell? w _ v9
     have f9:b'<w.heap.size:=by
      obtain⟨b9,o9,h9,v9⟩:=qc2 z.out.1.az (i:=j) (x:=u.a) (by rw[z.out.2.1.az,List.getElem?_map,hu];rfl)
      rw[a9]at h9
      cases h9
      exact World.block_lt_of_cell? w _ v9
     rw[b1]at q5;rw[a9]at q6
     have i1:j<d:=by rw[<-n.out,z.out.2.1.tk];exact hj
     have h7:(j:Int)<(d:Int):=by omega
     have y2:w6.cell? ⟨m,2,none⟩=some (.int .i64 0):=by rw[qe N.out.x5];rfl
     have y3:w6.cell? ⟨m,3,none⟩=some (.int .i64 0):=by rw[qe N.out.x5];rfl
     have f2:=qj N.out.x5 2;have f3:=qj N.out.x5 3;have A:=N.out.step (qo w6)
     have Z:(ruG G r).lv=u.l/\(ruG G r).a=u.a:=by
      have h1:=f4.out;rw[O]at h1;rw[h1.1,h1.2];unfold lvO azO;simp only[hu];exact⟨rfl,rfl⟩
     have g5:Hid (RD7 w ((w6.drew.setCell ⟨m,2,none⟩ (.int .i64 u.l)).setCell ⟨m,3,none⟩ (.int .i64 u.a)) f m l (ruG G r).r (ruG G r).lv (ruG G r).a C D):=by
      rw[Z.1,Z.2];exact(A.done.put2 A.ne A.n5 u.l).put3 A.ne A.n5 u.a
     have g6:Hid (RD7 w ((w6.drew.setCell ⟨m,3,none⟩ (.int .i64 u.a)).setCell ⟨m,2,none⟩ (.int .i64 u.l)) f m l (ruG G r).r (ruG G r).lv (ruG G r).a C D):=by
      rw[Z.1,Z.2];exact(A.done.put3 A.ne A.n5 u.a).put2 A.ne A.n5 u.l
     obtain rfl:zz=(j:Int):=by rw[<-a7.out,O];rfl
     have n3:=qu ⟨_,N.out.x3⟩ ⟨_,N.out.x5⟩ (by decide)
     have c3:b≠m:=by have:=N.out.n5;omega
     have c5:b'≠m:=by have:=N.out.n5;omega
     clear A Z hu O b1 a9 hj g7 f9
     go_upto_region 12 with fail
     go_region_held (fun M=>M.cell? ⟨t,5,none⟩=some (.slice (some ⟨b,o,none⟩) d h.lc)/\M.cell? ⟨t,6,none⟩=some (.slice (some ⟨b',o',none⟩) d h.ac)/\M.cell? ⟨b,o+j,none⟩=some (.int .i64 u.l)/\M.cell? ⟨b',o'+j,none⟩=some (.int .i64 u.a)) (first | exact⟨q5,q6,v5,v6⟩ | exact⟨zg q5 n3,zg q6 n3,zg v5 c3,zg v6 c5⟩ | exact⟨zg (zg q5 n3) n3,zg (zg q6 n3) n3,zg (zg v5 c3) c3,zg (zg v6 c5) c5⟩) (fail)
     all_goals
      go_wp2_with fail;go_meet
      first | exact g5 | exact g6
   case rest =>
    obtain⟨w7,i7⟩:∃w7,w7=wc:=⟨_,rfl⟩
    subst wc;have R:=hid2 hcut.out c9.out;clear hcut N
    have y0:w7.cell? ⟨m,0,none⟩=some (.int .i64 l):=by rw[qe R.out.1.x5];rfl
    have y1:w7.cell? ⟨m,1,none⟩=some (.slice C (ruG G r).r.length D):=by rw[qe R.out.1.x5];rfl
    have y2:w7.cell? ⟨m,2,none⟩=some (.int .i64 (ruG G r).lv):=by rw[qe R.out.1.x5];rfl
    have y3:w7.cell? ⟨m,3,none⟩=some (.int .i64 (ruG G r).a):=by rw[qe R.out.1.x5];rfl
    obtain⟨z0,z1,z2,z3,f0,f1,f2,f3⟩:=qdq R.out.1.x4
    have U:Hid (∀v0 v1 v2 v3,((((w7.setCell ⟨f,0,none⟩ v0).setCell ⟨f,1,none⟩ v1).setCell ⟨f,2,none⟩ v2).setCell ⟨f,3,none⟩ v3).ownsRow w.heap.size 3 1 (.slice C (ruG G r).r.length D) (ruG G r).r.length (natC (ruG G r).r)/\Below w.heap.size w ((((w7.setCell ⟨f,0,none⟩ v0).setCell ⟨f,1,none⟩ v1).setCell ⟨f,2,none⟩ v2).setCell ⟨f,3,none⟩ v3)):=fun v0 v1 v2 v3=>by
     have hl:Loc w7 f 56:=⟨_,R.out.1.x4⟩
     have l1:=hl.set f 0 v0;have l2:=l1.set f 1 v1;have l3:=l2.set f 2 v2;exact⟨vg (vg (vg (vg R.out.1.own hl (by decide)) l1 (by decide)) l2 (by decide)) l3 (by decide),(((R.out.1.bel.setCell (p:=⟨f,0,none⟩) R.out.2 _).setCell (p:=⟨f,1,none⟩) R.out.2 _).setCell (p:=⟨f,2,none⟩) R.out.2 _).setCell (p:=⟨f,3,none⟩) R.out.2 _⟩
    obtain⟨yn,f8⟩:∃yn,Hid ((ruG G r).r.length=yn):=⟨_,rfl⟩
    obtain⟨c7,f7⟩:∃c7,Hid ((ruG G r).lv=c7):=⟨_,rfl⟩
    obtain⟨c6,f6⟩:∃c6,Hid ((ruG G r).a=c6):=⟨_,rfl⟩
    rw[f8.out]at y1;rw[f7.out]at y2;rw[f6.out]at y3;go_wp2_with fail;refine bodyPost_ret (v:=.agg #[.int .i64 l,.slice C yn D,.int .i64 c7,.int .i64 c6]) (by simp[results,Tryz.results154,go_sem, *]) rfl ?_;exact⟨C,D,by rw[<-d9.out,f8.out,f7.out,f6.out],U.out _ _ _ _⟩
structure RS7 (w W:World) (b2 b3:Nat) (c2 c3:Array Value) (qs:List (SR × Option Addr × Nat)) (ao:Option Addr) (n c:Nat):Prop where
 x2:W.heap[b2]?=some (.cells c2 25 (0,0))
 x3:W.heap[b3]?=some (.cells c3 31 (0,0))
 len:n=qs.length
 own:W.ownsRow w.heap.size 56 4 (.slice ao n c) n (srC qs)
 row:∀q∈qs,W.ownsRow w.heap.size 3 1 (.slice q.2.1 q.1.r.length q.2.2) q.1.r.length (natC q.1.r)
 bel:Below w.heap.size w W
theorem RS7.step{w W b:World}{f g:Nat}{c2 h:Array Value}{qs:List (SR × Option Addr × Nat)}{d:Option Addr}{n c:Nat}(s:RS7 w W f g c2 h qs d n c)(a:Below W.heap.size W b):RS7 w b f g c2 h qs d n c :=
 ⟨qf a s.x2,qf a s.x3,s.len,zl s.own a,fun q i=>zl (s.row q i) a,qd s.bel a⟩
theorem RS7.add{w W:World}{x y:Nat}{c2 A:Array Value}{qs:List (SR × Option Addr × Nat)}{t:Option Addr}{n c:Nat}(s:RS7 w W x y c2 A qs t n c)(q:SR × Option Addr × Nat)(H:W.ownsRow w.heap.size 3 1 (.slice q.2.1 q.1.r.length q.2.2) q.1.r.length (natC q.1.r))(L:n<10000):
  ∃g j h,(Builtin.append_ #[29,29] 29 #[.slice t n c,.slice (some ⟨W.heap.size,0,none⟩) 1 1]).run Tryz.prog (W.alloc (.cells #[.int .i64 q.1.l,.slice q.2.1 q.1.r.length q.2.2,.int .i64 q.1.lv,.int .i64 q.1.a] 56))=.ok (.slice (some ⟨g,0,none⟩) (n+1) j) h/\RS7 w h x y c2 A (qs++[q]) (some ⟨g,0,none⟩) (n+1) j:=by
 obtain⟨g,j,h,I,m,B,K⟩:=xy (us:=[.int .i64 q.1.l,.slice q.2.1 q.1.r.length q.2.2,.int .i64 q.1.lv,.int .i64 q.1.a]) u30 i62 rfl (by decide) (by decide) rfl (fun u C=>by simp at C;rcases C with rfl | rfl | rfl | rfl <;> rfl) s.own s.bel.size (by omega)
 have f:=((Kept.refl _ W).alloc _).trans B (fun k _ e=>ze e)
 have z:∀{b T:Nat} {d:Array Value},W.heap[b]?=some (.cells d T (0,0))->T≠56->h.heap[b]?=some (.cells d T (0,0)):=fun o F=>by
  rw[f.block _ (Array.getElem?_eq_some_iff.1 o).1 (fun e=>qu ⟨_,o⟩ (qw s.own e).2.2 F rfl)];exact o
 have stay:∀{E k n:Nat} {v:Value} {cs:List Value},W.ownsRow w.heap.size E k v n cs->E≠56->h.ownsRow w.heap.size E k v n cs:=fun m D=>vp m f (fun i G e=>qu (za m G) (qw s.own e).2.2 D rfl)
 refine⟨g,j,h,I,z s.x2 (by decide),z s.x3 (by decide),by rw[List.length_append,s.len];rfl,by rw[qkj];exact m,?_,?_⟩
 ·intro J p
  rcases List.mem_append.1 p with h1 | h1
  ·exact stay (s.row J h1) (by decide)
  ·rw[List.mem_singleton]at h1;subst h1;exact stay H (by decide)
 ·refine s.bel.trans (f.below s.bel.size (fun k B e=>?_));have:=(qw s.own e).1;omega
theorem qjc(G:Gm)(hd:Hd)(S:Sp)(h:SHd)(w:World)(X:IsG w hd G)(a5:IsSp w h S)(ho:Of0 G S)(hm:MayP G)(hn:NmP G):
  Calls Tryz.prog 137 #[gv hd G,.agg (sC h S)] w fun e O=>∃L c qs,e=.returned (.slice L (G.rs.length+1) c)/\(O.ownsRow w.heap.size 56 4 (.slice L (G.rs.length+1) c) (G.rs.length+1) (srC qs)/\qs.map (·.1)=⟨-1,[S.st],0,0⟩ :: G.rs.map (ruG G)/\∀q∈qs,O.ownsRow w.heap.size 3 1 (.slice q.2.1 q.1.r.length q.2.2) q.1.r.length (natC q.1.r))/\Below w.heap.size w O:=by
 have a2:=X.small.nt;have a3:=X.small.nr;have Z:=kv X.rul
 have T:Hid (∀(V:World) (r:Ru) (t:Option Addr) (u:Nat),Below w.heap.size w V->r∈G.rs->Row V 1 t r.r.length u (strC r.r)->Calls Tryz.prog 154 #[.agg #[.string r.l,.slice t r.r.length u,.string r.p],.agg (sC h S)] V fun e O=>∃xa xc,e=.returned (.agg #[.int .i64 (ruG G r).l,.slice xa (ruG G r).r.length xc,.int .i64 (ruG G r).lv,.int .i64 (ruG G r).a])/\O.ownsRow V.heap.size 3 1 (.slice xa (ruG G r).r.length xc) (ruG G r).r.length (natC (ruG G r).r)/\Below V.heap.size V O):=fun V r t u hV hr n=>qkl G S h V (a5.below hV) ho hm a2 a3 hn r hr t u n
 have HG:=hid X;clear X a5 ho hm hn;obtain⟨A,B,C,v⟩:=hd;unfold gv;simp only at Z ⊢;have x:Below w.heap.size w ((w.alloc (.cells #[.slice A G.ts.length B,.string G.s,.int .i64 G.e,.slice C G.rs.length v] 25)).alloc (.cells (sC h S) 31)):=qd (qb _ _) (qb _ _);have j:((w.alloc (.cells #[.slice A G.ts.length B,.string G.s,.int .i64 G.e,.slice C G.rs.length v] 25)).alloc (.cells (sC h S) 31)).heap[w.heap.size]?=some (.cells #[.slice A G.ts.length B,.string G.s,.int .i64 G.e,.slice C G.rs.length v] 25 (0,0)):=qf (qb _ _) (heap_alloc_new _ _)
 have i:((w.alloc (.cells #[.slice A G.ts.length B,.string G.s,.int .i64 G.e,.slice C G.rs.length v] 25)).alloc (.cells (sC h S) 31)).heap[w.heap.size+1]?=some (.cells (sC h S) 31 (0,0)):=by
  have:=heap_alloc_new (w.alloc (.cells #[.slice A G.ts.length B,.string G.s,.int .i64 G.e,.slice C G.rs.length v] 25)) (.cells (sC h S) 31)
  rwa [qz]at this
 obtain⟨d,K⟩:∃d,Hid (G.rs.length=d):=⟨_,rfl⟩
 obtain⟨I,a6⟩:∃I,Hid (G.ts.length=I):=⟨_,rfl⟩
 rw[K.out]at a3 Z x j i ⊢;rw[a6.out]at a2 x j i ⊢
 obtain⟨s3,a4⟩:∃s3,sC h S=s3:=⟨_,rfl⟩
 have H:=a4;unfold sC at H;subst H;rw[a4]at T x j i ⊢;go_enter Tryz.func137,Tryz.ntmps137
 go_upto_region 1 with fail
 generalize (w.alloc (.cells #[.slice A I B,.string G.s,.int .i64 G.e,.slice C d v] 25)).alloc (.cells #[.int .i64 (S.tk:Int),.int .i64 (S.nt:Int),.int .i64 (S.st:Int),.int .i64 S.ex,.slice h.na S.nm.length h.nc,.slice h.la S.lv.length h.lc,.slice h.aa S.az.length h.ac,.slice h.ra S.rs.length h.rc] 31)=f at x j i ⊢
 obtain⟨D,Q⟩:∃D,Hid (D=w.heap.size):=⟨_,rfl⟩
 rw[<-Q.out]at j i ⊢
 generalize D+1=N at *
 have d2:f.cell? ⟨N,2,none⟩=some (.int .i64 (S.st:Int)):=by rw[qe i];rfl
 have E:Below f.heap.size f (f.alloc (.cells #[.int .i64 (S.st:Int)] 3)):=qb _ _;have z:Below (f.alloc (.cells #[.int .i64 (S.st:Int)] 3)).heap.size (f.alloc (.cells #[.int .i64 (S.st:Int)] 3)) ((f.alloc (.cells #[.int .i64 (S.st:Int)] 3)).alloc (.cells #[.int .i64 (-1),.slice (some ⟨f.heap.size,0,none⟩) 1 1,.int .i64 0,.int .i64 0] 56)):=qb _ _
 have P:Hid (RS7 w ((f.alloc (.cells #[.int .i64 (S.st:Int)] 3)).alloc (.cells #[.int .i64 (-1),.slice (some ⟨f.heap.size,0,none⟩) 1 1,.int .i64 0,.int .i64 0] 56)) D N #[.slice A I B,.string G.s,.int .i64 G.e,.slice C d v] #[.int .i64 (S.tk:Int),.int .i64 (S.nt:Int),.int .i64 (S.st:Int),.int .i64 S.ex,.slice h.na S.nm.length h.nc,.slice h.la S.lv.length h.lc,.slice h.aa S.az.length h.ac,.slice h.ra S.rs.length h.rc] [(⟨-1,[S.st],0,0⟩,some ⟨f.heap.size,0,none⟩,1)] (some ⟨f.heap.size+1,0,none⟩) 1 1):=by
  refine⟨qf z (qf E j),qf z (qf E i),rfl,?_,?_,qd (qd x E) z⟩
  ·have:=yh (f.alloc (.cells #[.int .i64 (S.st:Int)] 3)) w.heap.size 56 4 1 [.int .i64 (-1),.slice (some ⟨f.heap.size,0,none⟩) 1 1,.int .i64 0,.int .i64 0] (by rw[qz];have:=x.size;omega) rfl (by omega)
   rw[qz]at this;exact this
  ·intro q M;rw[List.mem_singleton]at M;subst M;exact zl (yh f w.heap.size 3 1 1 [.int .i64 (S.st:Int)] x.size rfl (by omega)) z
 clear E z x j i Q
 go_upto_region 2 with fail
 generalize (f.alloc (.cells #[.int .i64 (S.st:Int)] 3)).alloc (.cells #[.int .i64 (-1),.slice (some ⟨f.heap.size,0,none⟩) 1 1,.int .i64 0,.int .i64 0] 56)=W2 at P ⊢;generalize f.heap.size=c1 at P ⊢;clear d2
 have p3:W2.cell? ⟨D,3,none⟩=some (.slice C d v):=by rw[qe P.out.x2];rfl
 go_wp2_with fail;clear p3
 go_loopg [5,16] d (fun kx s5 s16 wr=>∃(k:Nat) (L:Nat × Nat),s5=.slice (some ⟨L.1,0,none⟩) (k+1) L.2/\s16=.int .i64 k/\k<=d/\d - k<=kx/\Hid (∃qs,RS7 w wr D N #[.slice A I B,.string G.s,.int .i64 G.e,.slice C d v] #[.int .i64 (S.tk:Int),.int .i64 (S.nt:Int),.int .i64 (S.st:Int),.int .i64 S.ex,.slice h.na S.nm.length h.nc,.slice h.la S.lv.length h.lc,.slice h.aa S.az.length h.ac,.slice h.ra S.rs.length h.rc] qs (some ⟨L.1,0,none⟩) (k+1) L.2/\qs.map (·.1)=⟨-1,[S.st],0,0⟩ :: (G.rs.take k).map (ruG G)))
 case atStart=>exact⟨0,(c1+1,1),rfl,rfl,Nat.zero_le _,by omega,(⟨_,P.out,rfl⟩:∃qs,RS7 w W2 D N #[.slice A I B,.string G.s,.int .i64 G.e,.slice C d v] #[.int .i64 (S.tk:Int),.int .i64 (S.nt:Int),.int .i64 (S.st:Int),.int .i64 S.ex,.slice h.na S.nm.length h.nc,.slice h.la S.lv.length h.lc,.slice h.aa S.az.length h.ac,.slice h.ra S.rs.length h.rc] qs (some ⟨c1+1,0,none⟩) (0+1) 1/\qs.map (·.1)=⟨-1,[S.st],0,0⟩ :: (G.rs.take 0).map (ruG G))⟩
 case round =>
  clear P;obtain⟨k,⟨ag,ac⟩,rfl,rfl,hk,hg,J⟩:=hrel;simp only at J
  by_cases a8:k<d
  ·have Y:(k:Int)<(d:Int):=by omega
   obtain⟨qs,s,y⟩:=J.out
   obtain⟨r,hr⟩:∃r,G.rs[k]?=some r:=⟨G.rs[k]'(by rw[K.out];exact a8),List.getElem?_eq_getElem _⟩
   obtain⟨b,o,t,u,a1,d0,d1,d2,n⟩:=(HG.out.rul.below s.bel).at hr;simp only at a1;subst a1;have hv:Below wr.heap.size wr (wr.alloc (.cells #[.string r.l,.slice t r.r.length u,.string r.p] 42)):=qb _ _
   have m:Hid (RS7 w (wr.alloc (.cells #[.string r.l,.slice t r.r.length u,.string r.p] 42)) D N #[.slice A I B,.string G.s,.int .i64 G.e,.slice (some ⟨b,o,none⟩) d v] #[.int .i64 (S.tk:Int),.int .i64 (S.nt:Int),.int .i64 (S.st:Int),.int .i64 S.ex,.slice h.na S.nm.length h.nc,.slice h.la S.lv.length h.lc,.slice h.aa S.az.length h.ac,.slice h.ra S.rs.length h.rc] qs (some ⟨ag,0,none⟩) (k+1) ac/\(wr.alloc (.cells #[.string r.l,.slice t r.r.length u,.string r.p] 42)).heap[wr.heap.size]?=some (.cells #[.string r.l,.slice t r.r.length u,.string r.p] 42 (0,0))/\Row (wr.alloc (.cells #[.string r.l,.slice t r.r.length u,.string r.p] 42)) 1 t r.r.length u (strC r.r)/\G.rs[k]?=some r/\qs.map (·.1)=⟨-1,[S.st],0,0⟩ :: (G.rs.take k).map (ruG G)):=⟨s.step hv,heap_alloc_new _ _,n.below hv,hr,y⟩
   clear s J hr hv y n
   go_upto_region 5 with fail
   obtain⟨U,R⟩:∃U,Hid (U=wr.heap.size):=⟨_,rfl⟩
   rw[<-R.out]at m ⊢;generalize wr.alloc (.cells #[.string r.l,.slice t r.r.length u,.string r.p] 42)=V at m ⊢;clear R d0 d1 d2
   have q0:V.cell? ⟨U,0,none⟩=some (.string r.l):=by rw[qe m.out.2.1];rfl
   have q1:V.cell? ⟨U,1,none⟩=some (.slice t r.r.length u):=by rw[qe m.out.2.1];rfl
   have q2:V.cell? ⟨U,2,none⟩=some (.string r.p):=by rw[qe m.out.2.1];rfl
   obtain⟨c0,a7,c2,c3,c4,c5,c6,c7⟩:=sbox m.out.1.x3;go_wp2_with fail;refine(T.out _ r t u m.out.1.bel (List.mem_of_getElem? m.out.2.2.2.1) m.out.2.2.1).mono ?_;rintro e V1 ⟨xa,xc,rfl,F,x⟩;clear q0 q1 q2 c0 a7 c2 c3 c4 c5 c6 c7;obtain⟨g,c',V2,a0,s2⟩:=(m.out.1.step x).add (ruG G r,xa,xc) (zc F m.out.1.bel.size) (by omega)
   have HF:Hid (∃qs,RS7 w V2 D N #[.slice A I B,.string G.s,.int .i64 G.e,.slice (some ⟨b,o,none⟩) d v] #[.int .i64 (S.tk:Int),.int .i64 (S.nt:Int),.int .i64 (S.st:Int),.int .i64 S.ex,.slice h.na S.nm.length h.nc,.slice h.la S.lv.length h.lc,.slice h.aa S.az.length h.ac,.slice h.ra S.rs.length h.rc] qs (some ⟨g,0,none⟩) (k+1+1) c'/\qs.map (·.1)=⟨-1,[S.st],0,0⟩ :: (G.rs.take (k+1)).map (ruG G)):=by
    refine⟨_,s2,?_⟩;rw[List.map_append,m.out.2.2.2.2,zw m.out.2.2.2.1];simp
   simp only at a0;clear s2 F x m
   generalize (ruG G r).r.length=yn at *
   go_wp2_with(at_builtin;refine Lib.wpList_append_run _ rfl _ _ _ _ rfl _ _ rfl rfl _ _ a0 ?_)
   go_roundg (d - (k+1))
   case measure=>omega
   case rel=>exact⟨k+1,(g,c'),rfl,by simp,by omega,Nat.le_refl _,HF⟩
  ·have Y:¬(k:Int)<(d:Int):=by omega
   have HF:Hid (∃qs,(wr.ownsRow w.heap.size 56 4 (.slice (some ⟨ag,0,none⟩) (d+1) ac) (d+1) (srC qs)/\qs.map (·.1)=⟨-1,[S.st],0,0⟩ :: G.rs.map (ruG G)/\∀q∈qs,wr.ownsRow w.heap.size 3 1 (.slice q.2.1 q.1.r.length q.2.2) q.1.r.length (natC q.1.r))/\Below w.heap.size w wr):=by
    have hk:k=d:=by omega
    subst hk;obtain⟨qs,s,y⟩:=J.out;rw[List.take_of_length_le (by rw[K.out];exact Nat.le_refl _)]at y
    exact⟨qs,⟨s.own,y,s.row⟩,s.bel⟩
   have hk:k=d:=by omega
   clear J;subst hk;go_wp2_with fail;go_ret;obtain⟨qs,M⟩:=HF.out;exact⟨_,_,rfl,⟨qs,M.1.1,M.1.2.1,fun a b c hm=>M.1.2.2 (a,b,c) hm⟩,M.2⟩
end Go.Proofs.YtbdogaaooeoccaaGreatDoor
