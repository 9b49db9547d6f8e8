/- Texts that the proofs of the Auto statements stand on, part Prf12. -/
import Derived.Lib.ConvBytes
import Derived.Test.YtbdogaaooeoccaaGreatDoorPrf11
set_option maxHeartbeats 16000000
set_option maxRecDepth 100000
namespace Go.Proofs.YtbdogaaooeoccaaGreatDoor
open Go.RowKit
def wdOf (s:ByteArray) (x:Nat × Nat × Nat):Wd:=⟨(x.1:Int),s.extract x.2.1 x.2.2,(x.2.1:Int)⟩
theorem qmw(l:List UInt8)(i j:Nat):bt (l.drop i) j=bt l (i+j):=by unfold bt;rw[List.getElem?_drop]
theorem qmx{l:List UInt8}{i e j:Nat}(h:j<e - i):bt (part l i e) j=bt l (i+j):=by
 unfold part;rw[<-qmw];unfold bt;rw[List.getElem?_take,if_pos h]
theorem qfj{l:List UInt8}{i e:Nat}(h:e<=l.length):(part l i e).length=e - i:=by
 unfold part;rw[List.length_take,List.length_drop];omega
theorem qgy(p:Int->Bool):∀(l:List UInt8) (j:Nat),j<j7 p l->p (bt l j)=true
 | [],j,h=>by simp[j7]at h
 | b :: r,0,h=>by
  unfold j7 at h
  split at h
  ·rename_i hp;exact hp
  ·omega
 | b :: r,j+1,h=>by
  unfold j7 at h
  split at h
  ·have:=qgy p r j (by omega);exact this
  ·omega
theorem ql9{p:Int->Bool}{l:List UInt8}{i j:Nat}(b:i<=j)(a:j<runEnd p l i):p (bt l j)=true:=by
 have:=qgy p (l.drop i) (j - i) (by unfold runEnd at a;omega)
 rw[qmw,show i+(j - i)=j by omega]at this;exact this
theorem qs8(s:ByteArray)(i e:Nat)(h:e<=(by8 s).length):(s.extract i e).size=e - i:=by
 rw[<-zf,kw,qfj h]
theorem qs9(s:ByteArray)(i:Nat)(x:i<(by8 s).length)(d:(wordP (by8 s) i).1≠0):WdOk (wdOf s ((wordP (by8 s) i).1,i,(wordP (by8 s) i).2)):=by
 obtain⟨F,D,B,G⟩:=qe7 x;have B:=B d;have b:=qs8 s i _ D
 have q:bt (by8 (s.extract i (wordP (by8 s) i).2)) 0=bt (by8 s) i:=by rw[kw,qmx (by omega)];rfl
 have a:(1:Int)<=((wordP (by8 s) i).1:Int)/\((wordP (by8 s) i).1:Int)<=4:=by omega
 by_cases f:isL (bt (by8 s) i)=true
 ·have e:=qdc f;unfold nameP at e
  by_cases o:12<runEnd isN (by8 s) i - i
  ·rw[if_pos o]at e;rw[e]at d;exact absurd rfl d
  ·rw[if_neg o]at e;refine⟨a,fun _=>⟨by unfold wdOf;simp only;rw[q];exact f,by unfold wdOf;simp only;rw[b];omega⟩,fun h=>?_,fun h=>?_,fun h=>?_,by unfold wdOf;simp only;rw[b,e];simp only;omega⟩
   all_goals (unfold wdOf at h;simp only at h;rw[e]at h;simp at h)
 ·have f:isL (bt (by8 s) i)=false:=by simpa using f
  by_cases l:isD (bt (by8 s) i)=true
  ·have e:=qd9 f l;unfold numberP at e
   by_cases u:vr (by8 s) i (runEnd isD (by8 s) i)=true
   ·rw[if_pos u]at e;rw[e]at d;exact absurd rfl d
   ·rw[if_neg u]at e
    have g:runEnd isD (by8 s) i - i<=4:=by
     unfold vr at u;simp only[Bool.or_eq_true,not_or,decide_eq_true_eq]at u;omega
    refine⟨a,fun h=>?_,fun _=>⟨by unfold wdOf;simp only;rw[b];omega,by unfold wdOf;simp only;rw[b,e];exact g,fun j n=>?_⟩,fun h=>?_,fun h=>?_,by unfold wdOf;simp only;rw[b,e];simp only;omega⟩
    ·unfold wdOf at h;simp only at h;rw[e]at h;simp at h
    ·unfold wdOf at n ⊢;simp only at n ⊢;rw[b]at n;rw[kw,qmx n];refine ql9 (i:=i) (by omega) ?_;rw[e]at n;simp only at n;omega
    ·unfold wdOf at h;simp only at h;rw[e]at h;simp at h
    ·unfold wdOf at h;simp only at h;rw[e]at h;simp at h
  ·have l:isD (bt (by8 s) i)=false:=by simpa using l
   by_cases m:(bt (by8 s) i == 37)=true
   ·have e:=qea f l m
    have r:(wordP (by8 s) i).1=4/\(wordP (by8 s) i).2 - i<=100:=by
     rw[e];rw[e]at d;unfold keyP at d ⊢
     split
     ·exact⟨rfl,by simp only;omega⟩
     ·rename_i hp;rw[if_neg hp]at d
      split
      ·rename_i k;refine⟨rfl,?_⟩;have E:(part (by8 s) (i+1) (runEnd isN (by8 s) (i+1))).length=runEnd isN (by8 s) (i+1) - (i+1):=qfj (vd (by omega))
       have C:∀t,vh.contains t=true->t.length<=8:=by
        intro t A;simp[vh]at A
        rcases A with rfl | rfl | rfl | rfl | rfl | rfl | rfl <;> decide
       have:=C _ k;simp only;omega
      ·rename_i k;rw[if_neg k]at d;exact absurd rfl d
    refine⟨a,fun h=>?_,fun h=>?_,fun h=>?_,fun _=>⟨by unfold wdOf;simp only;rw[q];simpa using m,by unfold wdOf;simp only;rw[b];omega⟩,by unfold wdOf;simp only;rw[b];exact r.2⟩
    all_goals (unfold wdOf at h;simp only at h;rw[r.1]at h;simp at h)
   ·have m:(bt (by8 s) i == 37)=false:=by simpa using m
    by_cases g:isS (bt (by8 s) i)=true
    ·have e:=qdd f l m g
     have y:by8 (s.extract i (wordP (by8 s) i).2)=[(by8 s)[i]]:=by
      rw[kw,e];unfold part;simp only;rw[show i+1 - i=1 by omega,List.drop_eq_getElem_cons x];rfl
     have v:bt (by8 s) i=(((by8 s)[i]).toNat:Int):=by unfold bt;rw[List.getElem?_eq_getElem x];rfl
     refine⟨a,fun h=>?_,fun h=>?_,fun _=>?_,fun h=>?_,by unfold wdOf;simp only;rw[b,e];simp only;omega⟩
     ·unfold wdOf at h;simp only at h;rw[e]at h;simp at h
     ·unfold wdOf at h;simp only at h;rw[e]at h;simp at h
     ·unfold wdOf;simp only;rw[y];unfold isS at g;rw[v]at g;simp only[Bool.or_eq_true,beq_iff_eq]at g
      have z:∀c:UInt8,((c.toNat:Int)=58\/(c.toNat:Int)=124)\/(c.toNat:Int)=59->[c]=[58]\/[c]=[124]\/[c]=[(59:UInt8)]:=by
       intro c k
       rcases k with (k | k) | k
       ·left;rw[List.cons.injEq];exact⟨UInt8.toNat_inj.1 (by have p:c.toNat=58:=(by omega);rw[p];rfl),rfl⟩
       ·right;left;rw[List.cons.injEq];exact⟨UInt8.toNat_inj.1 (by have p:c.toNat=124:=(by omega);rw[p];rfl),rfl⟩
       ·right;right;rw[List.cons.injEq];exact⟨UInt8.toNat_inj.1 (by have p:c.toNat=59:=(by omega);rw[p];rfl),rfl⟩
      exact z _ g
     ·unfold wdOf at h;simp only at h;rw[e]at h;simp at h
    ·rw[qde f l m (by simpa using g)]at d;exact absurd rfl d
theorem qgz(s:ByteArray):∀(f i:Nat) (a c:List (Nat × Nat × Nat)),(∀x∈a,WdOk (wdOf s x))->jv f (by8 s) i a=(c,-1)->Ends (c.map (wdOf s))
 | 0,i,a,c,_,h=>by simp[jv]at h
 | f+1,i,a,c,ha,h=>by
  by_cases g:i<(by8 s).length
  ·by_cases d:(wordP (by8 s) i).1=0
   ·rw[qjs g d]at h;simp at h
   ·rw[qh1 g d]at h;refine qgz s f _ _ c (fun x b=>?_) h
    rcases List.mem_append.1 b with b | b
    ·exact ha x b
    ·rw[List.mem_singleton]at b;subst b;exact qs9 s i g d
  ·rw[qjr (by omega)]at h;simp only[Prod.mk.injEq]at h;rw[<-h.1,List.map_append];refine⟨a.map (wdOf s),((by8 s).length:Int),?_,fun w j=>?_⟩
   ·congr 1
    show[wdOf s (5,(by8 s).length,(by8 s).length)]=[endW _]
    unfold wdOf endW;simp only;rw[zf,qe8];rfl
   ·obtain⟨x,b,rfl⟩:=List.mem_map.1 j;exact ha x b
theorem qpm{s:ByteArray}(h:(scan (by8 s)).2=-1):Ends ((scan (by8 s)).1.map (wdOf s)):=by
 refine qgz s _ _ [] _ (fun x a=>by cases a) (?_:scan (by8 s)=_);rw[<-h]
def TokA (w W:World) (rb:Nat) (qs:List (Ru × Option Addr × Nat)) (R:Except Flt (Nat × St)) (e:Ending) (W':World):Prop :=
 match R with
 | .ok (i,S1)=>∃h' tb,e=.returned (.tuple #[.pointer (some ⟨tb,i * 4,none⟩),fv (0,0)])/\h'.ta=some ⟨tb,0,none⟩/\RD w W' rb h' S1 qs/\Keep W W'
 | .error f=>e=.returned (.tuple #[.pointer none,fv f])/\(∃h' S1,RD w W' rb h' S1 qs)/\Keep W W'
theorem Keep.far{W a:World}(k:Keep W a){b:Nat}(l:W.heap.size<=b)(j:Nat)(u:Value):Keep W (a.setCell ⟨b,j,none⟩ u) :=
 ⟨by have:=k.size;simpa using this,fun b' c T d f g h i=>by
  rw[Below.heap_setCell _ _ _ _ (fun e=>by simp only at e;have:=(Array.getElem?_eq_some_iff.1 d).1;omega)]
  exact k.loc b' c T d f g h i⟩
theorem qd7(x:Wd)(w W:World)(k:Nat)(h:RHd)(S:St)(qs:List (Ru × Option Addr × Nat))(r:RD w W k h S qs):
  Calls Tryz.prog 212 #[.pointer (some ⟨k,0,none⟩),wv x] W fun e W'=>TokA w W k qs (tokP x S) e W':=by
 obtain⟨s,a,q⟩:=x;unfold wv;simp only;have E:Below W.heap.size W ((W.alloc (.cells #[.int .i64 s,.string a,.int .i64 q] 201)).alloc (.cells #[.int .i64 0,.int .i64 0] 177)):=qd (qb _ _) (qb _ _);have F:((W.alloc (.cells #[.int .i64 s,.string a,.int .i64 q] 201)).alloc (.cells #[.int .i64 0,.int .i64 0] 177)).heap[W.heap.size]?=some (.cells #[.int .i64 s,.string a,.int .i64 q] 201 (0,0)):=qf (qb _ _) (heap_alloc_new _ _)
 have G:((W.alloc (.cells #[.int .i64 s,.string a,.int .i64 q] 201)).alloc (.cells #[.int .i64 0,.int .i64 0] 177)).heap[W.heap.size+1]?=some (.cells #[.int .i64 0,.int .i64 0] 177 (0,0)):=by
  have:=heap_alloc_new (W.alloc (.cells #[.int .i64 s,.string a,.int .i64 q] 201)) (.cells #[.int .i64 0,.int .i64 0] 177)
  rwa [qz]at this
 have a4:=(Array.getElem?_eq_some_iff.1 r.box).1;have I:=hid (r.step E);have p:=hid r.bel.size;obtain⟨b0,b3⟩:=r.tlen;have c3:=r.ok.nt;clear r;obtain⟨V,Y,X,U,L,R,T⟩:=h;simp only at b0 b3;have b7:Hid ((S.ts.length=40)\/¬(S.ts.length=40)):=Classical.em _
 generalize en:S.ts.length=n at *
 have z:=hid en;clear en;go_enter Tryz.func212,Tryz.ntmps212
 go_upto_region 1 with fail
 generalize (W.alloc (.cells #[.int .i64 s,.string a,.int .i64 q] 201)).alloc (.cells #[.int .i64 0,.int .i64 0] 177)=W1 at E F G I ⊢
 obtain⟨f,H⟩:∃f,f=W.heap.size:=⟨_,rfl⟩
 rw[<-H]at F G ⊢
 have O:Hid (f=W.heap.size/\k<f):=⟨H,by rw[H];exact a4⟩
 have M:=hid E;have o:=hid2 F G;clear F G a4 H E
 have HC:Hid (Calls Tryz.prog 224 #[.slice U n L,.func (.func 225) #[] #[.pointer (some ⟨f,0,none⟩)]] W1 fun e w'=>e=.returned (.int .i64 (idxI (vx S.ts a)))/\Below W1.heap.size W1 w'):=by
  have:=qhi w W1 k ⟨V,Y,X,U,L,R,T⟩ S qs I.out f a (by rw[qe o.out.1];rfl)
  simp only[z.out]at this;exact this
 have Z:W1.cell? ⟨k,1,none⟩=some (.slice U n L):=by
  rw[qe I.out.box];unfold rdC;simp only[z.out];rfl
 go_wp2_with fail;refine HC.out.mono ?_;rintro e g ⟨rfl,E⟩;have d:=hid E;clear E Z HC
 have Z:g.cell? ⟨k,1,none⟩=some (.slice U n L):=by
  rw[qe (qf d.out I.out.box)];unfold rdC;simp only[z.out];rfl
 have t2:=qf d.out o.out.2
 have q3:g.cell? ⟨f+1,0,none⟩=some (.int .i64 0):=by rw[qe t2];rfl
 have q4:g.cell? ⟨f+1,1,none⟩=some (.int .i64 0):=by rw[qe t2];rfl
 have z3:=qj t2 0;have z4:=qj t2 1
 have a0:Hid (Loc g (f+1) 177):=⟨_,t2⟩
 clear t2
 cases P:vx S.ts a with
 | some i =>
  obtain⟨t,ht,b5⟩:=qfr P
  have hi:i<n:=by rw[<-z.out];exact(List.getElem?_eq_some_iff.1 ht).1
  obtain⟨l,bb,a6,-⟩:=(I.out.step d.out).tokAt ht;simp only at a6;subst a6
  have b9:(i:Int)<(n:Int):=by omega
  have HF:Hid (tokP ⟨s,a,q⟩ S=.ok (i,S)):=by
   show _=_;unfold tokP;simp only[P]
  clear P ht b5;unfold idxI;simp only;go_wp2_with fail;refine bodyPost_ret (v:=.tuple #[.pointer (some ⟨l,i * 4,none⟩),.agg #[.int .i64 0,.int .i64 0]]) (by simp[results,Tryz.results212,go_sem, *]) rfl ?_;rw[HF.out];have hn:=Nat.le_of_eq O.out.1.symm;have hk:=qy (qd M.out d.out);refine⟨⟨V,Y,X,some ⟨l,0,none⟩,L,R,T⟩,l,rfl,rfl,?_,(hk.far (by omega) _ _).far (by omega) _ _⟩;exact((I.out.step d.out).far a0.out (by decide) (by have:=p.out;omega)).far (a0.out.set _ _ _) (by decide) (by have:=p.out;omega)
 | none =>
  unfold idxI;simp only
  by_cases A:n=40
  ·have hq:((n:Int) == 40)=true:=by simp[A]
   have HF:Hid (tokP ⟨s,a,q⟩ S=.error (zt ⟨s,a,q⟩)):=by
    show _=_;unfold tokP;simp only[P,z.out,A,if_true]
   have t1:=qf d.out o.out.1
   have p0:g.cell? ⟨f,0,none⟩=some (.int .i64 s):=by rw[qe t1];rfl
   have p1:g.cell? ⟨f,1,none⟩=some (.string a):=by rw[qe t1];rfl
   have p2:g.cell? ⟨f,2,none⟩=some (.int .i64 q):=by rw[qe t1];rfl
   clear P t1 q3 q4 z3 z4 A;go_wp2_with fail;refine(jz ⟨s,a,q⟩ _).mono ?_;rintro e J ⟨rfl,E⟩;have N:=hid (qd d.out E);clear E Z p0 p1 p2;unfold fv zt;simp only;have t2:=qf N.out o.out.2
   have q3:J.cell? ⟨f+1,0,none⟩=some (.int .i64 0):=by rw[qe t2];rfl
   have q4:J.cell? ⟨f+1,1,none⟩=some (.int .i64 0):=by rw[qe t2];rfl
   have z3:=qj t2 0;have z4:=qj t2 1
   have a1:Hid (Loc J (f+1) 177):=⟨_,t2⟩
   clear t2;go_wp2_with fail;refine bodyPost_ret (v:=.tuple #[.pointer none,.agg #[.int .i64 1,.int .i64 q]]) (by simp[results,Tryz.results212,go_sem, *]) rfl ?_;rw[HF.out];have hn:=Nat.le_of_eq O.out.1.symm;have hk:=qy (qd M.out N.out);refine⟨rfl,⟨⟨V,Y,X,U,L,R,T⟩,S,?_⟩,(hk.far (by omega) _ _).far (by omega) _ _⟩;exact((I.out.step N.out).far a1.out (by decide) (by have:=p.out;omega)).far (a1.out.set _ _ _) (by decide) (by have:=p.out;omega)
  ·have hq:((n:Int) == 40)=false:=by simp;omega
   have a8:S.ts.length<40:=by rw[z.out];omega
   have HF:Hid (tokP ⟨s,a,q⟩ S=.ok (n,⟨S.ws,S.ts++[⟨a,0,0⟩],S.ls++[false],S.lv,S.st,S.ed,S.ex,S.rs⟩)):=by
    show _=_;unfold tokP;simp only[P,z.out];rw[if_neg A]
   have p1:g.cell? ⟨f,1,none⟩=some (.string a):=by rw[qe (qf d.out o.out.1)];rfl
   obtain⟨l,m,c,J,C,hm,B,a5,Q⟩:=((I.out.step d.out).step (qo g)).addTok a a8;simp only[z.out]at C hm;have D:(Builtin.append_ #[190,190] 190 #[.slice U n L,.slice (some ⟨g.heap.size,0,none⟩) 1 1]).run Tryz.prog (g.alloc (.cells #[.string a,.int .i64 0,.int .i64 0,.bool false] 205)).drew=.ok (.slice (some ⟨l,0,none⟩) m c) J:=C
   have d1:J.cell? ⟨k,1,none⟩=some (.slice U n L):=by
    rw[qe B];unfold rdC;simp only[z.out];rfl
   have f1:=qj B 1
   have HD:Hid (RD w (J.setCell ⟨k,1,none⟩ (.slice (some ⟨l,0,none⟩) m c)) k ⟨V,Y,X,some ⟨l,0,none⟩,c,R,T⟩ ⟨S.ws,S.ts++[⟨a,0,0⟩],S.ls++[false],S.lv,S.st,S.ed,S.ex,S.rs⟩ qs/\Keep g (J.setCell ⟨k,1,none⟩ (.slice (some ⟨l,0,none⟩) m c))):=⟨a5,Q.size,Q.loc⟩
   subst hm;have b6:=qp p1 (.cells #[.string a,.int .i64 0,.int .i64 0,.bool false] 205);have a7:=qp Z (.cells #[.string a,.int .i64 0,.int .i64 0,.bool false] 205);clear C a5 Q B q3 q4 z3 z4 P A
   go_upto_region 6 with fail
   go_cut [40] (fun s40 wd=>Hid (RD w wd k ⟨V,Y,X,some ⟨l,0,none⟩,c,R,T⟩ ⟨S.ws,S.ts++[⟨a,0,0⟩],S.ls++[false],S.lv,S.st,S.ed,S.ex,S.rs⟩ qs/\Keep g wd))
   case first =>
    go_region_law(refine zb rfl (.tmp 34) (.tmp 39) rfl rfl (by simp[Act.eval]) (by simp[Act.eval]) D ?_)
    all_goals (go_wp2_with fail;go_meet;exact HD)
   case rest =>
    obtain⟨K,b8⟩:∃K,K=wc:=⟨_,rfl⟩
    subst wc;have y:Hid (RD w K k ⟨V,Y,X,some ⟨l,0,none⟩,c,R,T⟩ ⟨S.ws,S.ts++[⟨a,0,0⟩],S.ls++[false],S.lv,S.st,S.ed,S.ex,S.rs⟩ qs/\Keep g K):=hcut;clear hcut HD d1 f1 Z a7 p1 b6 D;have t2:=y.out.2.loc _ _ _ (qf d.out o.out.2) (by decide) (by decide) (by decide) (by decide)
    have q3:K.cell? ⟨f+1,0,none⟩=some (.int .i64 0):=by rw[qe t2];rfl
    have q4:K.cell? ⟨f+1,1,none⟩=some (.int .i64 0):=by rw[qe t2];rfl
    have z3:=qj t2 0;have z4:=qj t2 1
    have a2:Hid (Loc K (f+1) 177):=⟨_,t2⟩
    have Z:K.cell? ⟨k,1,none⟩=some (.slice (some ⟨l,0,none⟩) (n+1) c):=by
     rw[qe y.out.1.box];unfold rdC;simp only[List.length_append,List.length_cons,List.length_nil,z.out];rfl
    obtain⟨a9,b2⟩:=y.out.1.tlen;simp only[List.length_append,List.length_cons,List.length_nil,z.out]at a9 b2
    have c4:(n:Int)<(n:Int)+1:=by omega
    clear t2
    go_upto_region 7 with fail
    go_region
    all_goals
     go_wp2_with fail;refine bodyPost_ret (v:=.tuple #[.pointer (some ⟨l,n * 4,none⟩),.agg #[.int .i64 0,.int .i64 0]]) (by simp[results,Tryz.results212,go_sem, *]) rfl ?_;rw[HF.out];have hn:=Nat.le_of_eq O.out.1.symm;have hk:=(qy (qd M.out d.out)).trans y.out.2;have a3:=(hk.far (b:=f+1) (by omega) 0 (.int .i64 0)).far (b:=f+1) (by omega) 1 (.int .i64 0);have b4:=((y.out.1.far (j:=0) (u:=.int .i64 0) a2.out (by decide) (by have:=p.out;omega)).far (j:=1) (u:=.int .i64 0) (a2.out.set _ _ _) (by decide) (by have:=p.out;omega)).step (qo _)
     exact⟨⟨V,Y,X,some ⟨l,0,none⟩,c,R,T⟩,l,rfl,rfl,b4,a3.size,a3.loc⟩
theorem qf4{α:Type}:∀{l:List α} {i:Nat} {x:α},l[i]?=some x->l.set i x=l
 | [],_,_,h=>by cases h
 | y :: r,0,x,h=>by cases h;rfl
 | y :: r,i+1,x,h=>by
  rw[List.set_cons_succ,qf4 (l:=r) (by simpa using h)]
theorem qmy{α β:Type}:∀{l:List α} {m:List β} {i:Nat} {x:α} {y:β},(l.set i x).zip (m.set i y)=(l.zip m).set i (x,y)
 | [],m,i,x,y=>by simp
 | a :: l,[],i,x,y=>by simp
 | a :: l,b :: m,0,x,y=>rfl
 | a :: l,b :: m,i+1,x,y=>by
  simp only[List.set_cons_succ,List.zip_cons_cons];rw[qmy]
theorem RD.setTok{w W:World}{o d:Nat}{h:RHd}{S:St}{qs:List (Ru × Option Addr × Nat)}(r:RD w W o h S qs)(f:h.ta=some ⟨d,0,none⟩){i j:Nat}{t t':Tk}{b b':Bool}(D:S.ts[i]?=some t)(y:S.ls[i]?=some b)(B:j<4)(u:Value)(z:([.string t.n,.int .i64 t.l,.int .i64 t.a,.bool b]:List Value).set j u=[.string t'.n,.int .i64 t'.l,.int .i64 t'.a,.bool b']):
  RD w (W.setCell ⟨d,i * 4+j,none⟩ u) o h ⟨S.ws,S.ts.set i t',S.ls.set i b',S.lv,S.st,S.ed,S.ex,S.rs⟩ qs/\Keep W (W.setCell ⟨d,i * 4+j,none⟩ u):=by
 have c:=r.tok;rw[f]at c;have g:Loc W d 205:=za c rfl
 have far:∀{E k n:Nat} {v:Value} {cs:List Value},W.ownsRow w.heap.size E k v n cs->E≠205->(W.setCell ⟨d,i * 4+j,none⟩ u).ownsRow w.heap.size E k v n cs:=by
  intro E k n v cs c x;exact qh c (fun i A=>Below.heap_setCell _ _ _ _ (qu (za c A) g x))
 have F:(S.ts.zip S.ls)[i]?=some (t,b):=by rw[List.getElem?_zip_eq_some];exact⟨D,y⟩
 refine⟨⟨?_,r.wds,?_,far r.rul (by decide),r.map,fun q C=>far (r.row q C) (by decide),?_,r.new,?_⟩,(Keep.refl W).set g (.inr (.inl rfl)) _ _⟩
 ·rw[Below.heap_setCell _ _ _ _ (qu ⟨_,r.box⟩ g (by decide)),r.box];unfold rdC;simp only[List.length_set]
 ·have m:=qmq (u:=u) (j:=i * 4+j) c
  have s:(rtC (S.ts.zip S.ls)).set (i * 4+j) u=rtC ((S.ts.set i t').zip (S.ls.set i b')):=by
   rw[qmy];exact qj3 _ (fun _=>rfl) (t',b') j u (S.ts.zip S.ls) i (t,b) F B z
  rw[s]at m;simp only[List.length_set];rw[f];exact m
 ·exact r.bel.setCell (p:=⟨d,i * 4+j,none⟩) (World.ownsRow.lt c d rfl).1 _
 ·exact⟨r.ok.ends,by simp only[List.length_set];exact r.ok.nt,by simp only[List.length_set];exact r.ok.nl,r.ok.lv,r.ok.nr⟩
def jr (R:Except Flt St):Flt:=match R with | .ok _=>(0,0) | .error f=>f
def Did (w W:World) (rb:Nat) (qs:List (Ru × Option Addr × Nat)) (R:Except Flt St) (e:Ending) (W':World):Prop :=
 ∃h' S',e=.returned (fv (jr R))/\RD w W' rb h' S' qs/\Keep W W'/\∀S1,R=.ok S1->S'=S1
theorem zx{w W a:World}{l b:Nat}{h:RHd}{c:St}{qs:List (Ru × Option Addr × Nat)}{R:Except Flt St}{d f:Int}(r:RD w a l h c qs)(k:Keep W a)(j:Loc a b 177)(i:W.heap.size<=b)(o:w.heap.size<=W.heap.size)(m:jr R=(d,f))(n:∀g,R=.ok g->c=g):
  Did w W l qs R (.returned (.agg #[.int .i64 d,.int .i64 f])) ((a.setCell ⟨b,0,none⟩ (.int .i64 d)).setCell ⟨b,1,none⟩ (.int .i64 f)):=by
 refine⟨h,c,by rw[m];rfl,?_,(k.far i _ _).far i _ _,n⟩
 exact(r.far j (by decide) (by omega)).far (j.set _ _ _) (by decide) (by omega)
theorem kf{W:World}{b:Nat}{a c:Value}(h:W.heap[b]?=some (.cells #[a,c] 177 (0,0))):W.cell? ⟨b,0,none⟩=some a/\W.cell? ⟨b,1,none⟩=some c/\W.frozen? ⟨b,0,none⟩=false/\W.frozen? ⟨b,1,none⟩=false :=
 ⟨by rw[qe h];rfl,by rw[qe h];rfl,qj h 0,qj h 1⟩
theorem qe2{W:World}{b:Nat}{a c d:Value}(h:W.heap[b]?=some (.cells #[a,c,d] 201 (0,0))):W.cell? ⟨b,0,none⟩=some a/\W.cell? ⟨b,1,none⟩=some c/\W.cell? ⟨b,2,none⟩=some d :=
 ⟨by rw[qe h];rfl,by rw[qe h];rfl,by rw[qe h];rfl⟩
theorem qks(x:Wd)(w W:World)(M:Nat)(h:RHd)(S:St)(qs:List (Ru × Option Addr × Nat))(r:RD w W M h S qs):
  Calls Tryz.prog 194 #[.pointer (some ⟨M,0,none⟩),wv x] W fun e Y=>Did w W M qs (ku x S) e Y:=by
 obtain⟨g,k,d⟩:=x;have I:Below W.heap.size W ((W.alloc (.cells #[.int .i64 g,.string k,.int .i64 d] 201)).alloc (.cells #[.int .i64 0,.int .i64 0] 177)):=qd (qb _ _) (qb _ _);have m:((W.alloc (.cells #[.int .i64 g,.string k,.int .i64 d] 201)).alloc (.cells #[.int .i64 0,.int .i64 0] 177)).heap[W.heap.size]?=some (.cells #[.int .i64 g,.string k,.int .i64 d] 201 (0,0)):=qf (qb _ _) (heap_alloc_new _ _)
 have A:((W.alloc (.cells #[.int .i64 g,.string k,.int .i64 d] 201)).alloc (.cells #[.int .i64 0,.int .i64 0] 177)).heap[W.heap.size+1]?=some (.cells #[.int .i64 0,.int .i64 0] 177 (0,0)):=by
  have:=heap_alloc_new (W.alloc (.cells #[.int .i64 g,.string k,.int .i64 d] 201)) (.cells #[.int .i64 0,.int .i64 0] 177)
  rwa [qz]at this
 have HR:=hid (r.step I);have H:=hid r.bel.size;have V:=hid r.ok;clear r;unfold wv;simp only;go_enter Tryz.func194,Tryz.ntmps194
 go_upto_region 1 with fail
 generalize (W.alloc (.cells #[.int .i64 g,.string k,.int .i64 d] 201)).alloc (.cells #[.int .i64 0,.int .i64 0] 177)=N at I m A HR ⊢
 obtain⟨L,K⟩:∃L,L=W.heap.size:=⟨_,rfl⟩
 rw[<-K]at m A ⊢;have G:=hid (Nat.le_of_eq K.symm);have E:=hid I;have F:=hid2 m A
 have p0:N.cell? ⟨L,0,none⟩=some (.int .i64 g):=by rw[qe m];rfl
 have p1:N.cell? ⟨L,1,none⟩=some (.string k):=by rw[qe m];rfl
 have p2:N.cell? ⟨L,2,none⟩=some (.int .i64 d):=by rw[qe m];rfl
 clear m A K I;have HC:Hid (Calls Tryz.prog 212 #[.pointer (some ⟨M,0,none⟩),.agg #[.int .i64 g,.string k,.int .i64 d]] N fun e Y=>TokA w N M qs (tokP ⟨g,k,d⟩ S) e Y):=qd7 ⟨g,k,d⟩ w N M h S qs HR.out;go_wp2_with fail;refine HC.out.mono ?_;intro e s U;clear HC p0 p1 p2
 cases o:tokP ⟨g,k,d⟩ S with
 | error f =>
  rw[o]at U;obtain⟨rfl,⟨h',S',n⟩,l⟩:=U;obtain⟨O,T⟩:=f
  have C:Hid (ku ⟨g,k,d⟩ S=.error (O,T)):=by
   show _=_;unfold ku;rw[o]
  have P:(O == 0)=false:=by
   unfold tokP at o
   split at o
   ·cases o
   ·split at o
    ·cases o
     rfl
    ·cases o
  have a0:(O != 0)=true:=by simpa using P
  have q:=hid2 n l;have t2:=l.loc _ _ _ F.out.2 (by decide) (by decide) (by decide) (by decide);have t3:=qf (qb s (.cells #[.int .i64 O,.int .i64 T] 177)) t2;obtain⟨q3,q4,z3,z4⟩:=kf t3
  have HL:Hid (Loc (s.alloc (.cells #[.int .i64 O,.int .i64 T] 177)) (L+1) 177):=⟨_,t3⟩
  clear n l t2 t3 P o;unfold fv;simp only;go_wp2_with fail;refine bodyPost_ret (v:=.agg #[.int .i64 O,.int .i64 T]) (by simp[results,Tryz.results194,go_sem, *]) rfl ?_;exact zx (q.out.1.step (qb _ _)) (((qy E.out).trans q.out.2).trans (qy (qb _ _))) HL.out (Nat.le_succ_of_le G.out) H.out (by rw[C.out];rfl) (fun a h=>by rw[C.out]at h;cases h)
 | ok p =>
  obtain⟨i,a⟩:=p;rw[o]at U;obtain⟨h',Q,rfl,B,n,l⟩:=U;obtain⟨-,hi,-,-⟩:=qcz V.out o
  obtain⟨t,ht⟩:∃t,a.ts[i]?=some t:=⟨a.ts[i],List.getElem?_eq_getElem hi⟩
  obtain⟨a1,b,D,J,-,-,-,c3,fz⟩:=n.tokAt ht;rw[B]at D
  cases D
  have q:=hid5 n l B ht J;have t1:=l.loc _ _ _ F.out.1 (by decide) (by decide) (by decide) (by decide);have t2:=l.loc _ _ _ F.out.2 (by decide) (by decide) (by decide) (by decide);have R:=hid2 t1 t2;have Z:=qp c3 (.cells #[.int .i64 0,.int .i64 0] 177)
  have z5:(s.alloc (.cells #[.int .i64 0,.int .i64 0] 177)).frozen? ⟨Q,i * 4+3,none⟩=false:=by
   obtain⟨c,hc⟩:Loc s Q 205:=za (by have:=n.tok;rw[B]at this;exact this) rfl
   exact qj (qf (qb _ _) hc) _
  have z:Hid (ku ⟨g,k,d⟩ S=if b=true then .error (vt ⟨g,k,d⟩) else .ok ⟨a.ws,a.ts,a.ls.set i true,a.lv,a.st,a.ed,a.ex,a.rs⟩):=by
   show _=_;unfold ku;rw[o];simp only[J,Option.getD_some]
  clear n l B ht J hi o fz t1 t2 c3;unfold fv;simp only
  cases b
  ·have C:Hid (ku ⟨g,k,d⟩ S=.ok ⟨a.ws,a.ts,a.ls.set i true,a.lv,a.st,a.ed,a.ex,a.rs⟩):=by
    show _=_;have:=z.out
    simpa using this
   clear z;have u:=(q.out.1.step (qb s (.cells #[.int .i64 0,.int .i64 0] 177))).setTok (t':=t) (b':=true) (j:=3) q.out.2.2.1 q.out.2.2.2.1 q.out.2.2.2.2 (by omega) (.bool true) rfl;rw[qf4 q.out.2.2.2.1]at u;have t3:=qf (qb s (.cells #[.int .i64 0,.int .i64 0] 177)) R.out.2;have t4:=u.2.loc _ _ _ t3 (by decide) (by decide) (by decide) (by decide);obtain⟨q3,q4,z3,z4⟩:=kf t4
   have X:Hid (RD w ((s.alloc (.cells #[.int .i64 0,.int .i64 0] 177)).setCell ⟨Q,i * 4+3,none⟩ (.bool true)) M h' ⟨a.ws,a.ts,a.ls.set i true,a.lv,a.st,a.ed,a.ex,a.rs⟩ qs/\Keep (s.alloc (.cells #[.int .i64 0,.int .i64 0] 177)) ((s.alloc (.cells #[.int .i64 0,.int .i64 0] 177)).setCell ⟨Q,i * 4+3,none⟩ (.bool true))/\Loc ((s.alloc (.cells #[.int .i64 0,.int .i64 0] 177)).setCell ⟨Q,i * 4+3,none⟩ (.bool true)) (L+1) 177):=⟨u.1,u.2,⟨_,t4⟩⟩
   clear u t3 t4;go_wp2_with fail;refine bodyPost_ret (v:=.agg #[.int .i64 0,.int .i64 0]) (by simp[results,Tryz.results194,go_sem, *]) rfl ?_;exact zx X.out.1 ((((qy E.out).trans q.out.2.1).trans (qy (qb _ _))).trans X.out.2.1) X.out.2.2 (Nat.le_succ_of_le G.out) H.out (by rw[C.out];rfl) (fun a h=>by rw[C.out]at h;cases h;rfl)
  ·have C:Hid (ku ⟨g,k,d⟩ S=.error (vt ⟨g,k,d⟩)):=by
    show _=_;have:=z.out
    simpa using this
   clear z;obtain⟨p0,p1,p2⟩:=qe2 (qf (qb s (.cells #[.int .i64 0,.int .i64 0] 177)) R.out.1);go_wp2_with fail;refine(qfa ⟨g,k,d⟩ _).mono ?_;rintro e W3 ⟨rfl,I⟩;have y:=hid (qd (qb _ _) I);clear I p0 p1 p2 Z z5;obtain⟨q3,q4,z3,z4⟩:=kf (qf y.out R.out.2);unfold fv vt;simp only;go_wp2_with fail;refine bodyPost_ret (v:=.agg #[.int .i64 7,.int .i64 d]) (by simp[results,Tryz.results194,go_sem, *]) rfl ?_;exact zx (q.out.1.step y.out) (((qy E.out).trans q.out.2.1).trans (qy y.out)) ⟨_,qf y.out R.out.2⟩ (Nat.le_succ_of_le G.out) H.out (by rw[C.out];rfl) (fun a h=>by rw[C.out]at h;cases h)
theorem Did.step{w W b a:World}{f:Nat}{qs:List (Ru × Option Addr × Nat)}{R:Except Flt St}{e:Ending}(d:Did w W f qs R e b)(c:Below b.heap.size b a):Did w W f qs R e a:=by
 obtain⟨h,g,i,j,k,l⟩:=d;exact⟨h,g,i,j.step c,k.trans (qy c),l⟩
theorem qkt(a:Int)(cr ca:Nat)(x:Wd)(w W:World)(D:Nat)(h:RHd)(S:St)(qs:List (Ru × Option Addr × Nat))(r:RD w W D h S qs)(a4:W.heap[cr]?=some (.cells #[.pointer (some ⟨D,0,none⟩)] 202 (0,0)))(a3:W.heap[ca]?=some (.cells #[.int .i64 a] 3 (0,0))):
  Calls Tryz.prog 214 #[wv x,.pointer (some ⟨cr,0,none⟩),.pointer (some ⟨ca,0,none⟩)] W fun e W'=>Did w W D qs (levP (S.lv:Int) a x S) e W':=by
 obtain⟨m,o,k⟩:=x;have U:Below W.heap.size W ((W.alloc (.cells #[.int .i64 m,.string o,.int .i64 k] 201)).alloc (.cells #[.int .i64 0,.int .i64 0] 177)):=qd (qb _ _) (qb _ _);have s:((W.alloc (.cells #[.int .i64 m,.string o,.int .i64 k] 201)).alloc (.cells #[.int .i64 0,.int .i64 0] 177)).heap[W.heap.size]?=some (.cells #[.int .i64 m,.string o,.int .i64 k] 201 (0,0)):=qf (qb _ _) (heap_alloc_new _ _)
 have F:((W.alloc (.cells #[.int .i64 m,.string o,.int .i64 k] 201)).alloc (.cells #[.int .i64 0,.int .i64 0] 177)).heap[W.heap.size+1]?=some (.cells #[.int .i64 0,.int .i64 0] 177 (0,0)):=by
  have:=heap_alloc_new (W.alloc (.cells #[.int .i64 m,.string o,.int .i64 k] 201)) (.cells #[.int .i64 0,.int .i64 0] 177)
  rwa [qz]at this
 have HR:=hid (r.step U);have Q:=hid r.bel.size;have a0:=hid r.ok
 have O:Hid (∀V:World,Keep W V->V.heap[cr]?=some (.cells #[.pointer (some ⟨D,0,none⟩)] 202 (0,0))/\V.heap[ca]?=some (.cells #[.int .i64 a] 3 (0,0))):=fun V hV=>⟨hV.loc _ _ _ a4 (by decide) (by decide) (by decide) (by decide),hV.loc _ _ _ a3 (by decide) (by decide) (by decide) (by decide)⟩
 clear a4 a3;clear r;unfold wv;simp only;go_enter Tryz.func214,Tryz.ntmps214
 go_upto_region 1 with fail
 generalize (W.alloc (.cells #[.int .i64 m,.string o,.int .i64 k] 201)).alloc (.cells #[.int .i64 0,.int .i64 0] 177)=R at U s F HR ⊢
 obtain⟨Y,X⟩:∃Y,Y=W.heap.size:=⟨_,rfl⟩
 rw[<-X]at s F ⊢;have P:=hid (Nat.le_of_eq X.symm);have M:=hid U;have N:=hid2 s F
 have p0:R.cell? ⟨Y,0,none⟩=some (.int .i64 m):=by rw[qe s];rfl
 have p1:R.cell? ⟨Y,1,none⟩=some (.string o):=by rw[qe s];rfl
 have p2:R.cell? ⟨Y,2,none⟩=some (.int .i64 k):=by rw[qe s];rfl
 clear s F X U
 have s0:R.cell? ⟨cr,0,none⟩=some (.pointer (some ⟨D,0,none⟩)):=by rw[qe (O.out _ (qy M.out)).1];rfl
 have HC:Hid (Calls Tryz.prog 212 #[.pointer (some ⟨D,0,none⟩),.agg #[.int .i64 m,.string o,.int .i64 k]] R fun e W'=>TokA w R D qs (tokP ⟨m,o,k⟩ S) e W'):=qd7 ⟨m,o,k⟩ w R D h S qs HR.out;go_wp2_with fail;refine HC.out.mono ?_;intro e q hA;clear HC p0 p1 p2 s0
 cases y:tokP ⟨m,o,k⟩ S with
 | error f =>
  rw[y]at hA;obtain⟨rfl,⟨h',S',u⟩,g⟩:=hA;obtain⟨f1,f2⟩:=f
  have J:Hid (levP (S.lv:Int) a ⟨m,o,k⟩ S=.error (f1,f2)):=by
   show _=_;unfold levP;rw[y]
  have a5:(f1 == 0)=false:=by
   unfold tokP at y
   split at y
   ·cases y
   ·split at y
    ·cases y
     rfl
    ·cases y
  have b3:(f1 != 0)=true:=by simpa using a5
  have A:=hid2 u g;have t2:=g.loc _ _ _ N.out.2 (by decide) (by decide) (by decide) (by decide);have t3:=qf (qb q (.cells #[.int .i64 f1,.int .i64 f2] 177)) t2;obtain⟨q3,q4,z3,z4⟩:=kf t3
  have HL:Hid (Loc (q.alloc (.cells #[.int .i64 f1,.int .i64 f2] 177)) (Y+1) 177):=⟨_,t3⟩
  clear u g t2 t3 a5 y;unfold fv;simp only;go_wp2_with fail;refine bodyPost_ret (v:=.agg #[.int .i64 f1,.int .i64 f2]) (by simp[results,Tryz.results214,go_sem, *]) rfl ?_;exact zx (A.out.1.step (qb _ _)) (((qy M.out).trans A.out.2).trans (qy (qb _ _))) HL.out (Nat.le_succ_of_le P.out) Q.out (by rw[J.out];rfl) (fun c h=>by rw[J.out]at h;cases h)
 | ok p =>
  obtain⟨i,c⟩:=p;rw[y]at hA;obtain⟨h',I,rfl,H,u,g⟩:=hA;obtain⟨-,hi,-,-⟩:=qcz a0.out y
  obtain⟨t,ht⟩:∃t,c.ts[i]?=some t:=⟨c.ts[i],List.getElem?_eq_getElem hi⟩
  obtain⟨b5,b,L,a8,-,c1,c2,-,-⟩:=u.tokAt ht;rw[H]at L
  cases L
  have A:=hid5 u g H ht a8;have a6:=(qy M.out).trans g;have t1:=g.loc _ _ _ N.out.1 (by decide) (by decide) (by decide) (by decide);have t2:=g.loc _ _ _ N.out.2 (by decide) (by decide) (by decide) (by decide);have Z:=hid3 t1 t2 a6;have a1:=qp c1 (.cells #[.int .i64 0,.int .i64 0] 177);have a2:=qp c2 (.cells #[.int .i64 0,.int .i64 0] 177);have a7:Loc q I 205:=za (by have:=u.tok;rw[H]at this;exact this) rfl
  obtain⟨b4,T⟩:=a7;have z5:(q.alloc (.cells #[.int .i64 0,.int .i64 0] 177)).frozen? ⟨I,i * 4+1,none⟩=false:=qj (qf (qb _ _) T) _;have z6:(q.alloc (.cells #[.int .i64 0,.int .i64 0] 177)).frozen? ⟨I,i * 4+2,none⟩=false:=qj (qf (qb _ _) T) _;obtain⟨a9,b0,b1,K⟩:=qcz a0.out y;have b2:=hid K
  have C:Hid (levP (S.lv:Int) a ⟨m,o,k⟩ S=if t.l≠0 then .error (vt ⟨m,o,k⟩) else .ok ⟨c.ws,c.ts.set i ⟨t.n,(S.lv:Int),a⟩,c.ls,c.lv,c.st,c.ed,c.ex,c.rs⟩):=by
   show _=_;unfold levP;rw[y]
   have e:tkAt c.ts i=t:=by unfold tkAt;rw[ht];rfl
   simp only[e]
  obtain⟨tn,tl,tA⟩:=t;simp only at c1 c2 a1 a2 C;clear u g H ht a8 hi y t1 t2 c1 c2 a9 b0 b1 K a6 T;unfold fv;simp only
  by_cases B:tl=0
  ·have hq:(tl != 0)=false:=by simp[B]
   have J:Hid (levP (S.lv:Int) a ⟨m,o,k⟩ S=.ok ⟨c.ws,c.ts.set i ⟨tn,(S.lv:Int),a⟩,c.ls,c.lv,c.st,c.ed,c.ex,c.rs⟩):=by
    show _=_;have:=C.out;rw[if_neg (by simpa using B)]at this;exact this
   clear C B;have z:=(A.out.1.step (qb q (.cells #[.int .i64 0,.int .i64 0] 177))).setTok (t':=⟨tn,(S.lv:Int),tA⟩) (b':=b) (j:=1) A.out.2.2.1 A.out.2.2.2.1 A.out.2.2.2.2 (by omega) (.int .i64 (S.lv:Int)) rfl;have d:=z.1.setTok (t:=⟨tn,(S.lv:Int),tA⟩) (t':=⟨tn,(S.lv:Int),a⟩) (b:=b) (b':=b) (i:=i) (j:=2) A.out.2.2.1 (by simp only;rw[List.getElem?_set_self (List.getElem?_eq_some_iff.1 A.out.2.2.2.1).1]) (by simp only;rw[List.getElem?_set_self (List.getElem?_eq_some_iff.1 A.out.2.2.2.2).1]) (by omega) (.int .i64 a) rfl
   simp only[List.set_set]at d;rw[qf4 A.out.2.2.2.2]at d;have G:Keep W (q.alloc (.cells #[.int .i64 0,.int .i64 0] 177)):=Z.out.2.2.trans (qy (qb _ _))
   have s0:(q.alloc (.cells #[.int .i64 0,.int .i64 0] 177)).cell? ⟨cr,0,none⟩=some (.pointer (some ⟨D,0,none⟩)):=by rw[qe (O.out _ G).1];rfl
   have s1:(q.alloc (.cells #[.int .i64 0,.int .i64 0] 177)).cell? ⟨ca,0,none⟩=some (.int .i64 a):=by rw[qe (O.out _ G).2];rfl
   have s2:(q.alloc (.cells #[.int .i64 0,.int .i64 0] 177)).cell? ⟨D,2,none⟩=some (.int .i64 (S.lv:Int)):=by
    rw[qe (A.out.1.step (qb _ _)).box,<-b2.out];rfl
   have t3:=qf (qb q (.cells #[.int .i64 0,.int .i64 0] 177)) Z.out.2.1;have t4:=d.2.loc _ _ _ (z.2.loc _ _ _ t3 (by decide) (by decide) (by decide) (by decide)) (by decide) (by decide) (by decide) (by decide);obtain⟨q3,q4,z3,z4⟩:=kf t4
   have HS:Hid (RD w (((q.alloc (.cells #[.int .i64 0,.int .i64 0] 177)).setCell ⟨I,i * 4+1,none⟩ (.int .i64 (S.lv:Int))).setCell ⟨I,i * 4+2,none⟩ (.int .i64 a)) D h' ⟨c.ws,c.ts.set i ⟨tn,(S.lv:Int),a⟩,c.ls,c.lv,c.st,c.ed,c.ex,c.rs⟩ qs/\Keep W (((q.alloc (.cells #[.int .i64 0,.int .i64 0] 177)).setCell ⟨I,i * 4+1,none⟩ (.int .i64 (S.lv:Int))).setCell ⟨I,i * 4+2,none⟩ (.int .i64 a))/\Loc (((q.alloc (.cells #[.int .i64 0,.int .i64 0] 177)).setCell ⟨I,i * 4+1,none⟩ (.int .i64 (S.lv:Int))).setCell ⟨I,i * 4+2,none⟩ (.int .i64 a)) (Y+1) 177):=⟨d.1,(G.trans z.2).trans d.2,⟨_,t4⟩⟩
   clear z d t3 t4 G
   go_upto_region 6 with fail
   go_region
   all_goals
    go_wp2_with fail;refine bodyPost_ret (v:=.agg #[.int .i64 0,.int .i64 0]) (by simp[results,Tryz.results214,go_sem, *]) rfl ?_;exact(zx HS.out.1 HS.out.2.1 HS.out.2.2 (Nat.le_succ_of_le P.out) Q.out (by rw[J.out];rfl) (fun c h=>by rw[J.out]at h;cases h;rfl)).step (qo _)
  ·have hq:(tl != 0)=true:=by simp[B]
   have J:Hid (levP (S.lv:Int) a ⟨m,o,k⟩ S=.error (vt ⟨m,o,k⟩)):=by
    show _=_;have:=C.out;rw[if_pos B]at this;exact this
   clear C B;obtain⟨p0,p1,p2⟩:=qe2 (qf (qb q (.cells #[.int .i64 0,.int .i64 0] 177)) Z.out.1);go_wp2_with fail;refine(qfa ⟨m,o,k⟩ _).mono ?_;rintro e W3 ⟨rfl,U⟩;have E:=hid (qd (qb _ _) U);clear U p0 p1 p2 a1 a2 z5 z6;obtain⟨q3,q4,z3,z4⟩:=kf (qf E.out Z.out.2.1);unfold fv vt;simp only;go_wp2_with fail;refine bodyPost_ret (v:=.agg #[.int .i64 7,.int .i64 k]) (by simp[results,Tryz.results214,go_sem, *]) rfl ?_;exact zx (A.out.1.step E.out) (Z.out.2.2.trans (qy E.out)) ⟨_,qf E.out Z.out.2.1⟩ (Nat.le_succ_of_le P.out) Q.out (by rw[J.out];rfl) (fun c h=>by rw[J.out]at h;cases h)
theorem qa8(k:Int)(S:St):(S.hd.k=k/\jf k S=.ok (S.hd,S.next)/\takeW k S=S.hd/\qbo k S=S.next/\qbp k S=(0,0))\/(S.hd.k≠k/\jf k S=.error (zt S.hd)/\qbp k S=zt S.hd/\qbo k S=S):=by
 by_cases h:S.hd.k=k
 ·left;unfold jf takeW qbo qbp;rw[if_pos h,if_pos h,if_pos h,if_pos h];exact⟨h,rfl,rfl,rfl,rfl⟩
 ·right;unfold jf qbo qbp;rw[if_neg h,if_neg h,if_neg h];exact⟨h,rfl,rfl,rfl⟩
theorem qku{x:Wd}{S:St}{f:Flt}(h:tokP x S=.error f):f=zt x:=by
 unfold tokP at h
 split at h
 ·cases h
 ·split at h
  ·cases h;rfl
  ·cases h
theorem qik{x:Wd}{S:St}{f:Flt}(h:ku x S=.error f):f.1≠0:=by
 unfold ku at h
 split at h
 ·rename_i f' h'
  cases h
  rw[qku h'];show(1:Int)≠0
  decide
 ·split at h
  ·cases h
   show(7:Int)≠0
   decide
  ·cases h
theorem qkv{l a:Int}{x:Wd}{S:St}{f:Flt}(h:levP l a x S=.error f):f.1≠0:=by
 unfold levP at h
 split at h
 ·rename_i f' h'
  cases h
  rw[qku h'];show(1:Int)≠0
  decide
 ·split at h
  ·cases h
   show(7:Int)≠0
   decide
  ·cases h
theorem qhx(w W:World)(l:Nat)(h:RHd)(S:St)(qs:List (Ru × Option Addr × Nat))(r:RD w W l h S qs)(X:Nat)(a9:S.ws.length<=X):
  Calls Tryz.prog 193 #[.pointer (some ⟨l,0,none⟩),.func (.func 194) #[.pointer (some ⟨l,0,none⟩)] #[]] W fun e W'=>Did w W l qs (z8 (ku) X S) e W':=by
 have b0:Loc W l 192:=⟨_,r.box⟩
 have HR:Hid (RD w (W.alloc (.cells #[.int .i64 0,.int .i64 0] 177)) l h S qs):=r.step (qb _ _);have V:=hid r.bel.size;have F:(W.alloc (.cells #[.int .i64 0,.int .i64 0] 177)).heap[W.heap.size]?=some (.cells #[.int .i64 0,.int .i64 0] 177 (0,0)):=heap_alloc_new _ _;have C:Hid (Keep W (W.alloc (.cells #[.int .i64 0,.int .i64 0] 177))):=qy (qb _ _)
 obtain⟨R,hR⟩:∃R,z8 (ku) X S=R:=⟨_,rfl⟩
 rw[hR];have a2:=hid hR;clear r b0 hR;go_enter Tryz.func193,Tryz.ntmps193
 go_upto_block 0 with fail
 generalize W.alloc (.cells #[.int .i64 0,.int .i64 0] 177)=W1 at HR F C ⊢
 obtain⟨nb,a1⟩:∃nb,nb=W.heap.size:=⟨_,rfl⟩
 rw[<-a1]at F ⊢;have U:=hid (Nat.le_of_eq a1.symm);have P:=hid F;clear F a1;go_wp2_with fail
 go_loopg [5] X (fun kx s5 wr=>∃f,f<=kx/\Hid (∃c Z,c.ws.length<=f/\RD w wr l Z c qs/\Keep W1 wr/\z8 (ku) f c=R/\c.lv=S.lv))
 case atStart=>exact⟨X,Nat.le_refl _,(⟨S,h,a9,HR.out,Keep.refl _,a2.out,rfl⟩:∃c Z,c.ws.length<=X/\RD w W1 l Z c qs/\Keep W1 W1/\z8 (ku) X c=R/\c.lv=S.lv)⟩
 case round =>
  obtain⟨f,b2,J⟩:=hrel;obtain⟨c,Z,K,G,a5,hN,a6⟩:=J.out;clear J HR a2
  obtain⟨z,rfl⟩:∃z,f=z+1:=⟨f - 1,by have:=G.ok.ends.pos;omega⟩
  have u:=hid (qak 1 (by decide) w wr l Z c qs G);have A:=hid5 K G a5 hN a6;clear K G a5 hN a6;unfold wv fv at u
  rcases qa8 1 c with ⟨hk,hP,hW,hS,hF⟩ | ⟨hk,hP,hF,hS⟩
  ·rw[hW,hS,hF]at u
   generalize hx:c.hd=x at *
   obtain⟨M,N,p⟩:=x;simp only at u;have a8:=hid2 hP hx;clear hk hP hW hS hF hx;go_wp2_with fail;refine u.out.mono ?_;rintro e n ⟨rfl,b⟩;have m:=hid2 b (A.out.2.2.1.trans (b.keep ⟨_,A.out.2.1.box⟩));clear b u;obtain⟨h2,j⟩:=m.out.1.rd;have i:Below n.heap.size n ((n.alloc (.cells #[.int .i64 M,.string N,.int .i64 p] 201)).alloc (.cells #[.int .i64 0,.int .i64 0] 177)):=qd (qb _ _) (qb _ _);have t:=hid2 (j.step i) (m.out.2.trans (qy i));clear j i;have H:Hid (Calls Tryz.prog 194 #[.pointer (some ⟨l,0,none⟩),.agg #[.int .i64 M,.string N,.int .i64 p]] ((n.alloc (.cells #[.int .i64 M,.string N,.int .i64 p] 201)).alloc (.cells #[.int .i64 0,.int .i64 0] 177)) fun e W'=>Did w ((n.alloc (.cells #[.int .i64 M,.string N,.int .i64 p] 201)).alloc (.cells #[.int .i64 0,.int .i64 0] 177)) l qs (ku ⟨M,N,p⟩ c.next) e W'):=qks ⟨M,N,p⟩ w _ l h2 c.next qs t.out.1;go_wp2_with fail;refine H.out.mono ?_;intro e W3 hD;obtain⟨h3,B,rfl,L,I,a0⟩:=hD;have d:=hid2 L (t.out.2.trans I);clear L I H
   have E:z8 (ku) (z+1) c=(match ku ⟨M,N,p⟩ c.next with | .error e=>.error e | .ok S2=>if S2.hd.k=1 then z8 (ku) z S2 else .ok S2):=by
    conv=>lhs;unfold z8
    rw[a8.out.1];rfl
   cases hL:ku ⟨M,N,p⟩ c.next with
   | error g =>
    obtain⟨Y,g2⟩:=g;have hg:Y≠0:=qik (f:=(Y,g2)) hL
    have b3:(Y != 0)=true:=by simpa using hg
    have Q:Hid (R=.error (Y,g2)):=by
     show _=_;rw[<-A.out.2.2.2.1,E,hL]
    have t2:=qf (qb W3 (.cells #[.int .i64 Y,.int .i64 g2] 177)) (d.out.2.loc _ _ _ P.out (by decide) (by decide) (by decide) (by decide));obtain⟨q3,q4,z3,z4⟩:=kf t2
    have T:Hid (Loc (W3.alloc (.cells #[.int .i64 Y,.int .i64 g2] 177)) nb 177):=⟨_,t2⟩
    clear E hL a0 hg t2;unfold jr fv;simp only;go_wp2_with fail;refine bodyPost_ret (v:=.agg #[.int .i64 Y,.int .i64 g2]) (by simp[results,Tryz.results193,go_sem, *]) rfl ?_;exact zx (d.out.1.step (qb _ _)) ((C.out.trans d.out.2).trans (qy (qb _ _))) T.out U.out V.out (by rw[Q.out];rfl) (fun c h=>by rw[Q.out]at h;cases h)
   | ok S4 =>
    have e3:=a0 S4 hL;subst e3;have a4:=qb W3 (.cells #[.int .i64 0,.int .i64 0] 177);have D:=hid (k8 w _ l h3 B qs (d.out.1.step a4));have a7:=qqf t.out.1.ok hL
    have a3:Hid (B.ws.length<=z/\B.lv=S.lv):=by
     obtain⟨o1,o2,o3⟩:=a7;have n1:=vj A.out.2.1.ok;refine⟨?_,?_⟩
     ·rw[o2];have:=A.out.1;omega
     ·rw[o3];exact A.out.2.2.2.2
    have s:Hid (R=if B.hd.k=1 then z8 (ku) z B else .ok B):=by
     show _=_;rw[<-A.out.2.2.2.1,E,hL]
    clear E hL a0 a7 a4;unfold wv at D
    generalize hy:B.hd=y at *
    obtain⟨O,yt,ya⟩:=y;simp only at D s;have b1:=qgk O ya yt;unfold jr fv;simp only;go_wp2_with fail;refine D.out.mono ?_;rintro e W4 ⟨rfl,hB⟩;have q:=hid (qd (qb _ _) hB);clear hB D hy
    by_cases o:O=1
    ·have hq:(O != 1)=false:=by simp[o]
     have Q:Hid (z8 (ku) z B=R):=by
      show _=_;have:=s.out;rw[if_pos o]at this;exact this.symm
     clear o s;go_wp2_with fail;go_roundg z
     case measure=>omega
     case rel=>exact⟨z,Nat.le_refl _,(⟨B,h3,a3.out.1,d.out.1.step q.out,d.out.2.trans (qy q.out),Q.out,a3.out.2⟩:∃c Z,c.ws.length<=z/\RD w W4 l Z c qs/\Keep W1 W4/\z8 (ku) z c=R/\c.lv=S.lv)⟩
    ·have hq:(O != 1)=true:=by simp[o]
     have Q:Hid (R=.ok B):=by
      show _=_;have:=s.out;rw[if_neg o]at this;exact this
     clear o s;have t2:=qf q.out (d.out.2.loc _ _ _ P.out (by decide) (by decide) (by decide) (by decide));obtain⟨q3,q4,z3,z4⟩:=kf t2
     have T:Hid (Loc W4 nb 177):=⟨_,t2⟩
     clear t2;go_wp2_with fail;refine bodyPost_ret (v:=.agg #[.int .i64 0,.int .i64 0]) (by simp[results,Tryz.results193,go_sem, *]) rfl ?_;exact zx (d.out.1.step q.out) ((C.out.trans d.out.2).trans (qy q.out)) T.out U.out V.out (by rw[Q.out];rfl) (fun c h=>by rw[Q.out]at h;cases h;rfl)
  ·have HN:Hid (R=.error (zt c.hd)):=by
    show _=_;rw[<-A.out.2.2.2.1]
    conv=>lhs;unfold z8
    rw[hP]
   rw[hF,hS]at u;unfold zt at u HN;generalize takeW 1 c=y at u
   generalize c.hd.a=p at *
   obtain⟨O,yt,ya⟩:=y;simp only at u;clear hk hP hF hS;go_wp2_with fail;refine u.out.mono ?_;rintro e n ⟨rfl,b⟩;have m:=hid2 b (A.out.2.2.1.trans (b.keep ⟨_,A.out.2.1.box⟩));clear b u;have i:Below n.heap.size n ((n.alloc (.cells #[.int .i64 O,.string yt,.int .i64 ya] 201)).alloc (.cells #[.int .i64 1,.int .i64 p] 177)):=qd (qb _ _) (qb _ _);have t2:=qf i (m.out.2.loc _ _ _ P.out (by decide) (by decide) (by decide) (by decide));obtain⟨q3,q4,z3,z4⟩:=kf t2
   have T:Hid (Loc ((n.alloc (.cells #[.int .i64 O,.string yt,.int .i64 ya] 201)).alloc (.cells #[.int .i64 1,.int .i64 p] 177)) nb 177/\Below n.heap.size n ((n.alloc (.cells #[.int .i64 O,.string yt,.int .i64 ya] 201)).alloc (.cells #[.int .i64 1,.int .i64 p] 177))):=⟨⟨_,t2⟩,i⟩
   clear t2 i;go_wp2_with fail;refine bodyPost_ret (v:=.agg #[.int .i64 1,.int .i64 p]) (by simp[results,Tryz.results193,go_sem, *]) rfl ?_;obtain⟨h2,j⟩:=m.out.1.rd;exact zx (j.step T.out.2) ((C.out.trans m.out.2).trans (qy T.out.2)) T.out.1 U.out V.out (by rw[HN.out];rfl) (fun c h=>by rw[HN.out]at h;cases h)
theorem qhy(a:Int)(cr ca:Nat)(w W:World)(m:Nat)(h:RHd)(S:St)(qs:List (Ru × Option Addr × Nat))(r:RD w W m h S qs)(Y:Nat)(b2:S.ws.length<=Y)(a6:W.heap[cr]?=some (.cells #[.pointer (some ⟨m,0,none⟩)] 202 (0,0)))(a5:W.heap[ca]?=some (.cells #[.int .i64 a] 3 (0,0))):
  Calls Tryz.prog 193 #[.pointer (some ⟨m,0,none⟩),.func (.func 214) #[] #[.pointer (some ⟨cr,0,none⟩),.pointer (some ⟨ca,0,none⟩)]] W fun e W'=>Did w W m qs (z8 (levP (S.lv:Int) a) Y S) e W':=by
 have b3:Loc W m 192:=⟨_,r.box⟩
 have HR:Hid (RD w (W.alloc (.cells #[.int .i64 0,.int .i64 0] 177)) m h S qs):=r.step (qb _ _);have X:=hid r.bel.size;have F:(W.alloc (.cells #[.int .i64 0,.int .i64 0] 177)).heap[W.heap.size]?=some (.cells #[.int .i64 0,.int .i64 0] 177 (0,0)):=heap_alloc_new _ _;have u:Hid (Keep W (W.alloc (.cells #[.int .i64 0,.int .i64 0] 177))):=qy (qb _ _)
 have b0:Hid (∀V:World,Keep W V->V.heap[cr]?=some (.cells #[.pointer (some ⟨m,0,none⟩)] 202 (0,0))/\V.heap[ca]?=some (.cells #[.int .i64 a] 3 (0,0))):=fun V hV=>⟨hV.loc _ _ _ a6 (by decide) (by decide) (by decide) (by decide),hV.loc _ _ _ a5 (by decide) (by decide) (by decide) (by decide)⟩
 clear a6 a5
 obtain⟨R,hR⟩:∃R,z8 (levP (S.lv:Int) a) Y S=R:=⟨_,rfl⟩
 rw[hR];have a2:=hid hR;clear r b3 hR;go_enter Tryz.func193,Tryz.ntmps193
 go_upto_block 0 with fail
 generalize W.alloc (.cells #[.int .i64 0,.int .i64 0] 177)=W1 at HR F u ⊢
 obtain⟨nb,a1⟩:∃nb,nb=W.heap.size:=⟨_,rfl⟩
 rw[<-a1]at F ⊢;have U:=hid (Nat.le_of_eq a1.symm);have P:=hid F;clear F a1;go_wp2_with fail
 go_loopg [5] Y (fun kx s5 wr=>∃f,f<=kx/\Hid (∃c h1,c.ws.length<=f/\RD w wr m h1 c qs/\Keep W1 wr/\z8 (levP (S.lv:Int) a) f c=R/\c.lv=S.lv))
 case atStart=>exact⟨Y,Nat.le_refl _,(⟨S,h,b2,HR.out,Keep.refl _,a2.out,rfl⟩:∃c h1,c.ws.length<=Y/\RD w W1 m h1 c qs/\Keep W1 W1/\z8 (levP (S.lv:Int) a) Y c=R/\c.lv=S.lv)⟩
 case round =>
  obtain⟨f,b5,J⟩:=hrel;obtain⟨c,h1,K,G,a7,hN,a8⟩:=J.out;clear J HR a2
  obtain⟨B,rfl⟩:∃B,f=B+1:=⟨f - 1,by have:=G.ok.ends.pos;omega⟩
  have A:=hid (qak 1 (by decide) w wr m h1 c qs G);have t:=hid5 K G a7 hN a8;clear K G a7 hN a8;unfold wv fv at A
  rcases qa8 1 c with ⟨hk,hP,hW,hS,hF⟩ | ⟨hk,hP,hF,hS⟩
  ·rw[hW,hS,hF]at A
   generalize hx:c.hd=x at *
   obtain⟨M,N,q⟩:=x;simp only at A;have b1:=hid2 hP hx;clear hk hP hW hS hF hx;go_wp2_with fail;refine A.out.mono ?_;rintro e o ⟨rfl,b⟩;have n:=hid2 b (t.out.2.2.1.trans (b.keep ⟨_,t.out.2.1.box⟩));clear b A;obtain⟨h2,l⟩:=n.out.1.rd;have i:Below o.heap.size o ((o.alloc (.cells #[.int .i64 M,.string N,.int .i64 q] 201)).alloc (.cells #[.int .i64 0,.int .i64 0] 177)):=qd (qb _ _) (qb _ _);have j:=hid2 (l.step i) (n.out.2.trans (qy i));clear l i
   have H:Hid (Calls Tryz.prog 214 #[.agg #[.int .i64 M,.string N,.int .i64 q],.pointer (some ⟨cr,0,none⟩),.pointer (some ⟨ca,0,none⟩)] ((o.alloc (.cells #[.int .i64 M,.string N,.int .i64 q] 201)).alloc (.cells #[.int .i64 0,.int .i64 0] 177)) fun e W'=>Did w ((o.alloc (.cells #[.int .i64 M,.string N,.int .i64 q] 201)).alloc (.cells #[.int .i64 0,.int .i64 0] 177)) m qs (levP (S.lv:Int) a ⟨M,N,q⟩ c.next) e W'):=by
    have hc:=b0.out _ (u.out.trans j.out.2);have:=qkt a cr ca ⟨M,N,q⟩ w _ m h2 c.next qs j.out.1 hc.1 hc.2;rw[show c.next.lv=S.lv from t.out.2.2.2.2]at this;exact this
   go_wp2_with fail;refine H.out.mono ?_;intro e W3 hD;obtain⟨h3,C,rfl,L,I,a0⟩:=hD;have d:=hid2 L (j.out.2.trans I);clear L I H
   have E:z8 (levP (S.lv:Int) a) (B+1) c=(match levP (S.lv:Int) a ⟨M,N,q⟩ c.next with | .error e=>.error e | .ok S2=>if S2.hd.k=1 then z8 (levP (S.lv:Int) a) B S2 else .ok S2):=by
    conv=>lhs;unfold z8
    rw[b1.out.1];rfl
   cases hL:levP (S.lv:Int) a ⟨M,N,q⟩ c.next with
   | error g =>
    obtain⟨Z,g2⟩:=g;have hg:Z≠0:=qkv (f:=(Z,g2)) hL
    have b6:(Z != 0)=true:=by simpa using hg
    have Q:Hid (R=.error (Z,g2)):=by
     show _=_;rw[<-t.out.2.2.2.1,E,hL]
    have t2:=qf (qb W3 (.cells #[.int .i64 Z,.int .i64 g2] 177)) (d.out.2.loc _ _ _ P.out (by decide) (by decide) (by decide) (by decide));obtain⟨q3,q4,z3,z4⟩:=kf t2
    have T:Hid (Loc (W3.alloc (.cells #[.int .i64 Z,.int .i64 g2] 177)) nb 177):=⟨_,t2⟩
    clear E hL a0 hg t2;unfold jr fv;simp only;go_wp2_with fail;refine bodyPost_ret (v:=.agg #[.int .i64 Z,.int .i64 g2]) (by simp[results,Tryz.results193,go_sem, *]) rfl ?_;exact zx (d.out.1.step (qb _ _)) ((u.out.trans d.out.2).trans (qy (qb _ _))) T.out U.out X.out (by rw[Q.out];rfl) (fun c h=>by rw[Q.out]at h;cases h)
   | ok S4 =>
    have e3:=a0 S4 hL;subst e3;have a4:=qb W3 (.cells #[.int .i64 0,.int .i64 0] 177);have D:=hid (k8 w _ m h3 C qs (d.out.1.step a4));have a9:=qse j.out.1.ok hL
    have a3:Hid (C.ws.length<=B/\C.lv=S.lv):=by
     obtain⟨o1,o2,o3⟩:=a9;have n1:=vj t.out.2.1.ok;refine⟨?_,?_⟩
     ·rw[o2];have:=t.out.1;omega
     ·rw[o3];exact t.out.2.2.2.2
    have z:Hid (R=if C.hd.k=1 then z8 (levP (S.lv:Int) a) B C else .ok C):=by
     show _=_;rw[<-t.out.2.2.2.1,E,hL]
    clear E hL a0 a9 a4;unfold wv at D
    generalize hy:C.hd=y at *
    obtain⟨O,yt,ya⟩:=y;simp only at D z;have b4:=qgk O ya yt;unfold jr fv;simp only;go_wp2_with fail;refine D.out.mono ?_;rintro e W4 ⟨rfl,hB⟩;have s:=hid (qd (qb _ _) hB);clear hB D hy
    by_cases p:O=1
    ·have hq:(O != 1)=false:=by simp[p]
     have Q:Hid (z8 (levP (S.lv:Int) a) B C=R):=by
      show _=_;have:=z.out;rw[if_pos p]at this;exact this.symm
     clear p z;go_wp2_with fail;go_roundg B
     case measure=>omega
     case rel=>exact⟨B,Nat.le_refl _,(⟨C,h3,a3.out.1,d.out.1.step s.out,d.out.2.trans (qy s.out),Q.out,a3.out.2⟩:∃c h1,c.ws.length<=B/\RD w W4 m h1 c qs/\Keep W1 W4/\z8 (levP (S.lv:Int) a) B c=R/\c.lv=S.lv)⟩
    ·have hq:(O != 1)=true:=by simp[p]
     have Q:Hid (R=.ok C):=by
      show _=_;have:=z.out;rw[if_neg p]at this;exact this
     clear p z;have t2:=qf s.out (d.out.2.loc _ _ _ P.out (by decide) (by decide) (by decide) (by decide));obtain⟨q3,q4,z3,z4⟩:=kf t2
     have T:Hid (Loc W4 nb 177):=⟨_,t2⟩
     clear t2;go_wp2_with fail;refine bodyPost_ret (v:=.agg #[.int .i64 0,.int .i64 0]) (by simp[results,Tryz.results193,go_sem, *]) rfl ?_;exact zx (d.out.1.step s.out) ((u.out.trans d.out.2).trans (qy s.out)) T.out U.out X.out (by rw[Q.out];rfl) (fun c h=>by rw[Q.out]at h;cases h;rfl)
  ·have HN:Hid (R=.error (zt c.hd)):=by
    show _=_;rw[<-t.out.2.2.2.1]
    conv=>lhs;unfold z8
    rw[hP]
   rw[hF,hS]at A;unfold zt at A HN;generalize takeW 1 c=y at A
   generalize c.hd.a=q at *
   obtain⟨O,yt,ya⟩:=y;simp only at A;clear hk hP hF hS;go_wp2_with fail;refine A.out.mono ?_;rintro e o ⟨rfl,b⟩;have n:=hid2 b (t.out.2.2.1.trans (b.keep ⟨_,t.out.2.1.box⟩));clear b A;have i:Below o.heap.size o ((o.alloc (.cells #[.int .i64 O,.string yt,.int .i64 ya] 201)).alloc (.cells #[.int .i64 1,.int .i64 q] 177)):=qd (qb _ _) (qb _ _);have t2:=qf i (n.out.2.loc _ _ _ P.out (by decide) (by decide) (by decide) (by decide));obtain⟨q3,q4,z3,z4⟩:=kf t2
   have T:Hid (Loc ((o.alloc (.cells #[.int .i64 O,.string yt,.int .i64 ya] 201)).alloc (.cells #[.int .i64 1,.int .i64 q] 177)) nb 177/\Below o.heap.size o ((o.alloc (.cells #[.int .i64 O,.string yt,.int .i64 ya] 201)).alloc (.cells #[.int .i64 1,.int .i64 q] 177))):=⟨⟨_,t2⟩,i⟩
   clear t2 i;go_wp2_with fail;refine bodyPost_ret (v:=.agg #[.int .i64 1,.int .i64 q]) (by simp[results,Tryz.results193,go_sem, *]) rfl ?_;obtain⟨h2,l⟩:=n.out.1.rd;exact zx (l.step T.out.2) ((u.out.trans n.out.2).trans (qy T.out.2)) T.out.1 U.out X.out (by rw[HN.out];rfl) (fun c h=>by rw[HN.out]at h;cases h)
theorem RD.setBox{w W:World}{a:Nat}{h:RHd}{S:St}{qs:List (Ru × Option Addr × Nat)}(r:RD w W a h S qs)(j:Nat)(u:Value)(b:St)(g:b.ws=S.ws)(l:b.ts=S.ts)(m:b.ls=S.ls)(c:b.rs=S.rs)(s:(rdC h S).setIfInBounds j u=rdC h b)(ok:StOk b):
  RD w (W.setCell ⟨a,j,none⟩ u) a h b qs/\Keep W (W.setCell ⟨a,j,none⟩ u):=by
 have d:Loc W a 192:=⟨_,r.box⟩
 have far:∀{E k n:Nat} {v:Value} {cs:List Value},W.ownsRow w.heap.size E k v n cs->E≠192->(W.setCell ⟨a,j,none⟩ u).ownsRow w.heap.size E k v n cs:=by
  intro E k n v cs f o;exact qh f (fun i t=>Below.heap_setCell _ _ _ _ (qu (za f t) d o))
 refine⟨⟨?_,?_,?_,?_,?_,fun q x=>far (r.row q x) (by decide),r.bel.setCell (p:=⟨a,j,none⟩) r.new _,r.new,ok⟩,(Keep.refl W).set d (.inl rfl) _ _⟩
 ·rw[setCell_eq_setRow W a j _ 192 (0,0) _ r.box,s];exact setRow_heap _ _ _ _ 192 _ r.box
 ·rw[g];exact r.wds
 ·rw[l,m];exact far r.tok (by decide)
 ·rw[c];exact far r.rul (by decide)
 ·rw[c];exact r.map
theorem qjg(a:Int)(x:Wd)(w W:World)(b:Nat)(h:RHd)(S:St)(qs:List (Ru × Option Addr × Nat))(r:RD w W b h S qs):
  Calls Tryz.prog 195 #[.pointer (some ⟨b,0,none⟩),wv x,.int .i64 a] W fun e M=>Did w W b qs (jc x a S) e M:=by
 obtain⟨z,A,s⟩:=x
 obtain⟨p,O⟩:∃o:Obj,o=.cells #[.pointer (some ⟨b,0,none⟩)] 202:=⟨_,rfl⟩
 obtain⟨q,P⟩:∃o:Obj,o=.cells #[.int .i64 z,.string A,.int .i64 s] 201:=⟨_,rfl⟩
 obtain⟨y,Q⟩:∃o:Obj,o=.cells #[.int .i64 a] 3:=⟨_,rfl⟩
 obtain⟨D,R⟩:∃o:Obj,o=.cells #[.int .i64 0,.int .i64 0] 177:=⟨_,rfl⟩
 have B:Below W.heap.size W ((((W.alloc p).alloc q).alloc y).alloc D):=qd (qd (qd (qb _ _) (qb _ _)) (qb _ _)) (qb _ _);have f:((((W.alloc p).alloc q).alloc y).alloc D).heap[W.heap.size]?=some p:=qf (qd (qd (qb _ _) (qb _ _)) (qb _ _)) (heap_alloc_new _ _)
 have c:((((W.alloc p).alloc q).alloc y).alloc D).heap[W.heap.size+1]?=some q:=by
  have:=heap_alloc_new (W.alloc p) q;rw[qz]at this;exact qf (qd (qb _ _) (qb _ _)) this
 have n:((((W.alloc p).alloc q).alloc y).alloc D).heap[W.heap.size+1+1]?=some y:=by
  have:=heap_alloc_new ((W.alloc p).alloc q) y;rw[qz,qz]at this;exact qf (qb _ _) this
 have i:((((W.alloc p).alloc q).alloc y).alloc D).heap[W.heap.size+1+1+1]?=some D:=by
  have:=heap_alloc_new (((W.alloc p).alloc q).alloc y) D;rw[qz,qz,qz]at this;exact this
 subst O P Q R;have k:=hid (r.step B);have G:=hid r.bel.size;clear r;unfold wv;simp only;go_enter Tryz.func195,Tryz.ntmps195
 go_upto_region 1 with fail
 generalize (((W.alloc (.cells #[.pointer (some ⟨b,0,none⟩)] 202)).alloc (.cells #[.int .i64 z,.string A,.int .i64 s] 201)).alloc (.cells #[.int .i64 a] 3)).alloc (.cells #[.int .i64 0,.int .i64 0] 177)=H at B f c n i k ⊢
 obtain⟨l,C⟩:∃l,l=W.heap.size:=⟨_,rfl⟩
 rw[<-C]at f c n i ⊢
 have F:Hid (W.heap.size<=l+1+1+1):=by have:=Nat.le_of_eq C.symm;show _<=_;omega
 have E:=hid (qy B);have d:=hid4 f c n i
 have s0:H.cell? ⟨l,0,none⟩=some (.pointer (some ⟨b,0,none⟩)):=by rw[qe f];rfl
 have s2:H.cell? ⟨b,2,none⟩=some (.int .i64 (S.lv:Int)):=by rw[qe k.out.box];rfl
 have Y:=qj k.out.box 2;have K:=k.out.ok.lv;clear C B f n
 by_cases I:S.lv=8
 ·have hq:((S.lv:Int) == 8)=true:=by simp[I]
  have V:Hid (jc ⟨z,A,s⟩ a S=.error (zt ⟨z,A,s⟩)):=by
   show _=_;unfold jc;rw[if_pos I]
  obtain⟨p0,p1,p2⟩:=qe2 c;clear I c i K
  generalize (S.lv:Int)=lv at *
  go_wp2_with fail;refine(jz ⟨z,A,s⟩ _).mono ?_;rintro e X ⟨rfl,B⟩;have m:=hid B;clear B p0 p1 p2 s0 s2 Y;obtain⟨q3,q4,z3,z4⟩:=kf (qf m.out d.out.2.2.2);unfold fv zt;simp only;go_wp2_with fail;refine bodyPost_ret (v:=.agg #[.int .i64 1,.int .i64 s]) (by simp[results,Tryz.results195,go_sem, *]) rfl ?_;exact zx (k.out.step m.out) (E.out.trans (qy m.out)) ⟨_,qf m.out d.out.2.2.2⟩ F.out G.out (by rw[V.out];rfl) (fun S1 h=>by rw[V.out]at h;cases h)
 ·have hq:((S.lv:Int) == 8)=false:=by simp;omega
  have j:=k.out.setBox 2 (.int .i64 ((S.lv:Int)+1)) ⟨S.ws,S.ts,S.ls,S.lv+1,S.st,S.ed,S.ex,S.rs⟩ rfl rfl rfl rfl (by unfold rdC;simp) ⟨k.out.ok.ends,k.out.ok.nt,k.out.ok.nl,by simp only;omega,k.out.ok.nr⟩
  have t0:=j.2.loc _ _ _ d.out.1 (by decide) (by decide) (by decide) (by decide);have t2:=j.2.loc _ _ _ d.out.2.2.1 (by decide) (by decide) (by decide) (by decide)
  have U:Hid (Calls Tryz.prog 193 #[.pointer (some ⟨b,0,none⟩),.func (.func 214) #[] #[.pointer (some ⟨l,0,none⟩),.pointer (some ⟨l+1+1,0,none⟩)]] (H.setCell ⟨b,2,none⟩ (.int .i64 ((S.lv:Int)+1))) fun e M=>Did w (H.setCell ⟨b,2,none⟩ (.int .i64 ((S.lv:Int)+1))) b qs (jc ⟨z,A,s⟩ a S) e M):=by
   have:=qhy a l (l+1+1) w _ b h _ qs j.1 S.ws.length (Nat.le_refl _) t0 t2
   have e:jc ⟨z,A,s⟩ a S=z8 (levP (((S.lv+1:Nat)):Int) a) S.ws.length ⟨S.ws,S.ts,S.ls,S.lv+1,S.st,S.ed,S.ex,S.rs⟩:=by
    unfold jc;rw[if_neg I];rfl
   rw[e];exact this
  have HS:=hid j.2
  have T:(H.setCell ⟨b,2,none⟩ (.int .i64 ((S.lv:Int)+1))).cell? ⟨l,0,none⟩=some (.pointer (some ⟨b,0,none⟩)):=by rw[qe t0];rfl
  have Z:(S.lv:Int)<=8/\0<=(S.lv:Int):=by omega
  clear j t0 t2 I c i K
  generalize (S.lv:Int)=lv at *
  go_wp2_with fail;refine U.out.mono ?_;intro e X hD;obtain⟨h3,S3,rfl,u,t,J⟩:=hD;have L:=hid3 u (HS.out.trans t) J;clear u t J U s0 T s2 Y;have t3:=L.out.2.1.loc _ _ _ d.out.2.2.2 (by decide) (by decide) (by decide) (by decide);obtain⟨q3,q4,z3,z4⟩:=kf t3
  have HL:Hid (Loc X (l+1+1+1) 177):=⟨_,t3⟩
  obtain⟨g,N⟩:∃g,g=jr (jc ⟨z,A,s⟩ a S):=⟨_,rfl⟩
  have HG:=hid N.symm;rw[<-N];clear N t3;obtain⟨g1,g2⟩:=g;unfold fv;simp only;go_wp2_with fail;refine bodyPost_ret (v:=.agg #[.int .i64 g1,.int .i64 g2]) (by simp[results,Tryz.results195,go_sem, *]) rfl ?_;exact zx L.out.1 (E.out.trans L.out.2.1) HL.out F.out G.out HG.out L.out.2.2
end Go.Proofs.YtbdogaaooeoccaaGreatDoor
