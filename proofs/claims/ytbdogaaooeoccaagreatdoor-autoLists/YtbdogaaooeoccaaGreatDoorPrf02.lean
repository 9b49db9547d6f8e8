/- Texts that the proofs of the Auto statements stand on, part Prf02. -/
import Derived.Maps.AppendAt
import Derived.Laws.Concat
import Derived.Test.YtbdogaaooeoccaaGreatDoorPrf01
set_option maxHeartbeats 16000000
set_option maxRecDepth 100000
namespace Go.Proofs.YtbdogaaooeoccaaGreatDoor
open Go.RowKit
def cutS (s:ByteArray) (n:Nat):ByteArray:=if n<s.size then s.extract 0 n else s
theorem qba(s:ByteArray)(n:Nat)(w:World):Calls Tryz.prog 28 #[.string s,.int .i64 n] w fun e a=>e=.returned (.string (cutS s n))/\a=w:=by
 by_cases h:n<s.size
 ·have H:Hid (cutS s n=s.extract 0 n):=by show _=_;unfold cutS;rw[if_pos h]
  generalize cutS s n=r at H;go_enter Tryz.func28,Tryz.ntmps28;go_wp2;go_ret;exact⟨by rw[H.out];rfl,rfl⟩
 ·have H:Hid (cutS s n=s):=by show _=_;unfold cutS;rw[if_neg h]
  generalize cutS s n=r at H;go_enter Tryz.func28,Tryz.ntmps28;go_wp2;go_ret;exact⟨by rw[H.out];rfl,rfl⟩
theorem qee(s:ByteArray):(s.toList == [])=(by8 s == []):=by rw[ja]
theorem vv(s:ByteArray)(w:World)(o:s.size<=1048576):Calls Tryz.prog 158 #[.string s] w fun e f=>e=.returned (.bool (nameOk (by8 s)))/\f=w:=by
 have k:=hid (zf s)
 by_cases a:(by8 s == [])=true
 ·have l:(s.toList == [])=true:=by rw[qee];exact a
  have H:Hid (nameOk (by8 s)=false):=by show _=_;unfold nameOk;rw[a];rfl
  generalize nameOk (by8 s)=r at H;clear a;go_enter Tryz.func158,Tryz.ntmps158;go_wp2;go_ret;exact⟨by rw[H.out];rfl,rfl⟩
 ·have a:(by8 s == [])=false:=by simpa using a
  have l:(s.toList == [])=false:=by rw[qee];exact a
  have n:0<s.size:=by
   rw[<-k.out]
   have:by8 s≠[]:=by simpa using a
   exact List.length_pos_iff.2 this
  have g:=jb s 0 n;have d:∀W:World,(Instr.index 9 (.string s) (.int .i64 0)).run Tryz.prog W=.ok (.int .u8 (bt (by8 s) 0)) W:=g
  by_cases b:isL (bt (by8 s) 0)=true
  ·have H:Hid (nameOk (by8 s)=((((runEnd isN (by8 s) 0:Nat):Int) == (s.size:Int)) && decide ((s.size:Int)<=12))):=by show _=_;unfold nameOk;rw[a,b,k.out];rfl
   have j:Hid (∀W:World,Calls Tryz.prog 169 #[.string s,.int .i64 0] W fun e f=>e=.returned (.int .i64 (runEnd isN (by8 s) 0))/\f=W):=fun W=>qbi s 0 W (Nat.zero_le _) o
   generalize runEnd isN (by8 s) 0=m at H j;generalize bt (by8 s) 0=c at d b;generalize nameOk (by8 s)=r at H;clear a g
   by_cases h:((m:Int) == (s.size:Int))=true
   ·have i:Hid (r=decide ((s.size:Int)<=12)):=by have:=H.out;rwa [h,Bool.true_and]at this
    clear H;go_enter Tryz.func158,Tryz.ntmps158;go_wp2_with(first | (go_at_call 168;refine(kg _ _).mono ?_;rintro e f ⟨rfl,rfl⟩;rw[b]) | (go_at_call 169;refine(j.out _).mono ?_;rintro e f ⟨rfl,rfl⟩))
    go_ret;exact⟨by rw[i.out];rfl,rfl⟩
   ·have h:((m:Int) == (s.size:Int))=false:=by simpa using h
    have i:Hid (r=false):=by have:=H.out;rwa [h,Bool.false_and]at this
    clear H;go_enter Tryz.func158,Tryz.ntmps158;go_wp2_with(first | (go_at_call 168;refine(kg _ _).mono ?_;rintro e f ⟨rfl,rfl⟩;rw[b]) | (go_at_call 169;refine(j.out _).mono ?_;rintro e f ⟨rfl,rfl⟩))
    go_ret;exact⟨by rw[i.out];rfl,rfl⟩
  ·have b:isL (bt (by8 s) 0)=false:=by simpa using b
   have H:Hid (nameOk (by8 s)=false):=by show _=_;unfold nameOk;rw[b];simp
   generalize bt (by8 s) 0=c at d b;generalize nameOk (by8 s)=r at H;clear a g;go_enter Tryz.func158,Tryz.ntmps158;go_wp2_with(go_at_call 168;refine(kg _ _).mono ?_;rintro e f ⟨rfl,rfl⟩;rw[b])
   go_ret;exact⟨by rw[H.out];rfl,rfl⟩
theorem qgd{l:List UInt8}{i:Nat}(c:i<l.length)(b:isL (bt l i)=false)(a:i=0\/isD (bt l i)=false):nameOk l=false:=by
 unfold nameOk
 rcases a with rfl | a
 ·rw[b];simp
 ·have:(((runEnd isN l 0:Nat):Int) == (l.length:Int))=false:=by
   rw[beq_eq_false_iff_ne];intro e;have:=qh2 (p:=isN) l.length 0 (by omega) (by omega) i (Nat.zero_le _) c;unfold isN at this;rw[b,a]at this
   cases this
  rw[this];simp
theorem qne{l:List UInt8}(h:∀i,i<l.length->isL (bt l i)=true\/(i≠0/\isD (bt l i)=true)):nameOk l=(decide ((1:Int)<=(l.length:Int)) && decide ((l.length:Int)<=12)):=by
 unfold nameOk
 cases l with
 | nil=>simp
 | cons a r =>
  have b:isL (bt (a :: r) 0)=true:=by
   rcases h 0 (by simp) with h | h
   ·exact h
   ·exact absurd rfl h.1
  have f:runEnd isN (a :: r) 0=(a :: r).length:=qf9 (a :: r).length 0 (by omega) (fun j _ d=>by
   unfold isN
   rcases h j d with h | h
   ·rw[h];rfl
   ·rw[h.2];simp)
  rw[b,f]
  have c:(1:Int)<=((a :: r).length:Int):=by simp;omega
  rw[decide_eq_true c];simp
theorem yu(s:ByteArray)(w:World)(y:s.size<=1048576):Calls Tryz.prog 39 #[.string s] w fun e l=>e=.returned (.bool (nameOk (by8 s)))/\l=w:=by
 have p:=hid (zf s)
 obtain⟨r,o⟩:∃r,Hid (nameOk (by8 s)=r):=⟨_,rfl⟩
 rw[o.out];go_enter Tryz.func39,Tryz.ntmps39;go_wp2
 go_loop [3] (fun v=>∃k:Nat,k<=s.size/\v=.int .i64 k/\Hid (∀i,i<k->isL (bt (by8 s) i)=true\/(i≠0/\isD (bt (by8 s) i)=true))) (fun v=>s.size - (intOf v).toNat)
 case atStart=>exact⟨0,Nat.zero_le _,rfl,(fun i t=>absurd t (Nat.not_lt_zero _):∀i,i<0->isL (bt (by8 s) i)=true\/(i≠0/\isD (bt (by8 s) i)=true))⟩
 case round =>
  obtain⟨k,x,rfl,J⟩:=hrel
  by_cases n:k<s.size
  ·have b:=jb s k n
   have m:k<(by8 s).length:=by rw[p.out];exact n
   by_cases a:isL (bt (by8 s) k)=true
   ·have q:Hid (∀i,i<k+1->isL (bt (by8 s) i)=true\/(i≠0/\isD (bt (by8 s) i)=true)):=fun i t=>by
     rcases Nat.lt_or_ge i k with h | h
     ·exact J.out i h
     ·rw[show i=k by omega];exact .inl a
    generalize bt (by8 s) k=c at b a;clear m J;go_wp2_with(go_at_call 59;refine(qac _ _).mono ?_;rintro e l ⟨rfl,rfl⟩;rw[a])
    go_round
    case rel=>exact⟨k+1,by omega,by go_num,q⟩
    case measure=>simp[intOf];omega
   ·have a:isL (bt (by8 s) k)=false:=by simpa using a
    by_cases j:k=0
    ·have d:Hid (r=false):=by show _=_;rw[<-o.out];exact qgd m a (.inl j)
     generalize bt (by8 s) k=c at b a
     have u:((k:Int) == 0)=true:=by simpa using j
     clear m J j;go_wp2_with(go_at_call 59;refine(qac _ _).mono ?_;rintro e l ⟨rfl,rfl⟩;rw[a])
     go_ret;exact⟨by rw[d.out];rfl,rfl⟩
    ·have u:((k:Int) == 0)=false:=by simpa using j
     by_cases f:isD (bt (by8 s) k)=true
     ·have q:Hid (∀i,i<k+1->isL (bt (by8 s) i)=true\/(i≠0/\isD (bt (by8 s) i)=true)):=fun i t=>by
       rcases Nat.lt_or_ge i k with h | h
       ·exact J.out i h
       ·rw[show i=k by omega];exact .inr ⟨j,f⟩
      generalize bt (by8 s) k=c at b a f;clear m J j;go_wp2_with(first | (go_at_call 59;refine(qac _ _).mono ?_;rintro e l ⟨rfl,rfl⟩;rw[a]) | (go_at_call 60;refine(qeb _ _).mono ?_;rintro e l ⟨rfl,rfl⟩;rw[f]))
      go_round
      case rel=>exact⟨k+1,by omega,by go_num,q⟩
      case measure=>simp[intOf];omega
     ·have f:isD (bt (by8 s) k)=false:=by simpa using f
      have d:Hid (r=false):=by show _=_;rw[<-o.out];exact qgd m a (.inr f)
      generalize bt (by8 s) k=c at b a f;clear m J j;go_wp2_with(first | (go_at_call 59;refine(qac _ _).mono ?_;rintro e l ⟨rfl,rfl⟩;rw[a]) | (go_at_call 60;refine(qeb _ _).mono ?_;rintro e l ⟨rfl,rfl⟩;rw[f]))
      go_ret;exact⟨by rw[d.out];rfl,rfl⟩
  ·obtain rfl:k=s.size:=by omega
   have d:Hid (r=(decide ((1:Int)<=(s.size:Int)) && decide ((s.size:Int)<=12))):=by
    show _=_;rw[<-o.out,qne (by rw[p.out];exact J.out),p.out]
   clear J
   by_cases a:(1:Int)<=(s.size:Int)
   ·have g:Hid (r=decide ((s.size:Int)<=12)):=by have:=d.out;rwa [decide_eq_true a,Bool.true_and]at this
    clear d;go_wp2;go_ret;exact⟨by rw[g.out];rfl,rfl⟩
   ·have g:Hid (r=false):=by have:=d.out;rwa [decide_eq_false a,Bool.false_and]at this
    clear d;go_wp2;go_ret;exact⟨by rw[g.out];rfl,rfl⟩
def txt1:ByteArray:=⟨#[37,116,111,107,101,110,32,65,32,47,47,32,120,10,37,37,32,115,58,32,65,32,49,50,59]⟩
def txt2:ByteArray:=⟨#[97,32,37,102,111,111]⟩
theorem quo:scan (by8 txt1)=([(4,0,6),(1,7,8),(4,14,16),(1,17,18),(3,18,19),(1,20,21),(2,22,24),(3,24,25),(5,25,25)],-1):=by kernel_rfl
theorem qup:scan (by8 txt2)=([],2):=by kernel_rfl
theorem quq:((txt1.extract 0 6).toList == [37,116,111,107,101,110])=true:=by rw[ja,kw];kernel_rfl
theorem qur:((txt1.extract 14 16).toList == [37,37])=true:=by rw[ja,kw];kernel_rfl
theorem qus:nameOk (by8 ⟨#[97,95,49]⟩)=true:=by kernel_rfl
theorem qut:nameOk (by8 ⟨#[49,97]⟩)=false:=by kernel_rfl
theorem qlq(w:World):Calls Tryz.prog 206 #[] w fun e n=>e=.returned (.bool true)/\Below w.heap.size w n:=by
 have H1:=hid (qdf txt1 w (by decide))
 have o:Hid (∀W:World,Calls Tryz.prog 164 #[.string txt2] W fun e n=>qex txt2 W n e):=fun W=>qdf txt2 W (by decide)
 unfold qex at H1 o;rw[quo]at H1;rw[qup]at o;simp only at H1 o
 have N1:Hid (∀W:World,Calls Tryz.prog 158 #[.string ⟨#[97,95,49]⟩] W fun e n=>e=.returned (.bool true)/\n=W):=fun W=>by
  have:=vv ⟨#[97,95,49]⟩ W (by decide)
  rwa [qus]at this
 have z:Hid (∀W:World,Calls Tryz.prog 158 #[.string ⟨#[49,97]⟩] W fun e n=>e=.returned (.bool false)/\n=W):=fun W=>by
  have:=vv ⟨#[49,97]⟩ W (by decide)
  rwa [qut]at this
 go_enter Tryz.func206,Tryz.ntmps206;go_wp2_with fail;refine H1.out.mono ?_;rintro e w1 ⟨D,rfl,q,p⟩;have t:=hid2 q p;clear q p;go_wp2_with fail;refine(o.out _).mono ?_;rintro e w2 ⟨E,rfl,u,d⟩;have c:=hid2 (t.out.1.below d) (qd t.out.2 d);clear t u d H1 o;obtain⟨A,c1,rfl,v,r,s⟩:=zo c.out.1
 have r:c1<=9223372036854775807:=by unfold maxLen at r;omega
 obtain⟨g,rfl⟩:∃g,A=some ⟨g,0,none⟩:=s.elim (fun h=>absurd h.2.1 (by decide)) id;obtain⟨f,a,-⟩:=c.out.1.at (i:=0) (x:=(4,0,6)) rfl;obtain⟨-,b,j⟩:=c.out.1.at (i:=2) (x:=(4,14,16)) rfl;obtain⟨k,-,-⟩:=c.out.1.at (i:=4) (x:=(3,18,19)) rfl;obtain⟨l,-,-⟩:=c.out.1.at (i:=6) (x:=(2,22,24)) rfl;obtain⟨m,-,-⟩:=c.out.1.at (i:=8) (x:=(5,25,25)) rfl;have t1:=quq;have t2:=qur;simp only at f a b j k l m;generalize txt1.extract 0 6=B at a t1;generalize txt1.extract 14 16=C at b t2;have y:=hid c.out.2;clear s c;have f:w2.cell? ⟨g,0,none⟩=some (.int .i64 4):=f;have a:w2.cell? ⟨g,1,none⟩=some (.string B):=a;have b:w2.cell? ⟨g,7,none⟩=some (.string C):=b;have j:w2.cell? ⟨g,8,none⟩=some (.int .i64 14):=j;have k:w2.cell? ⟨g,12,none⟩=some (.int .i64 3):=k;have l:w2.cell? ⟨g,18,none⟩=some (.int .i64 2):=l;have m:w2.cell? ⟨g,24,none⟩=some (.int .i64 5):=m;simp only[List.length_cons,List.length_nil]at v ⊢;go_wp2_with fail;refine(N1.out _).mono ?_;rintro e F ⟨rfl,rfl⟩;go_wp2_with fail;refine(z.out _).mono ?_;rintro e G ⟨rfl,rfl⟩;go_wp2_with fail;go_ret;exact⟨rfl,y.out⟩
structure Tk where
 n:ByteArray
 l:Int
 a:Int
structure Ru where
 l:ByteArray
 r:List ByteArray
 p:ByteArray
structure Gm where
 ts:List Tk
 s:ByteArray
 e:Int
 rs:List Ru
theorem qmh{a b:ByteArray}(h:by8 a=by8 b):a=b:=by
 apply ByteArray.ext
 exact Array.toList_inj.1 h
theorem vi(a b:ByteArray):(a.toList == b.toList)=true↔a=b:=by
 rw[ja,ja]
 constructor
 ·intro h;exact qmh (by simpa using h)
 ·rintro rfl;simp
theorem xu{a b:ByteArray}(h:a≠b):(a.toList == b.toList)=false:=by
 cases c:(a.toList == b.toList)
 ·rfl
 ·exact absurd ((vi a b).1 c) h
theorem xv{a b:ByteArray}(h:a=b):(a.toList == b.toList)=true:=(vi a b).2 h
theorem zy(a:ByteArray):(a.toList == [])=true↔a=⟨#[]⟩:=by
 have:=vi a ⟨#[]⟩
 have e:(⟨#[]⟩:ByteArray).toList=[]:=by rw[ja];rfl
 rwa [e]at this
def kd (s:ByteArray):Prop:=nameOk (by8 s)=true
def xw (s:ByteArray):Prop:=s=⟨#[]⟩\/kd s
def LevP (t:Tk):Prop:=(t.l=0/\t.a=0)\/(1<=t.l/\t.l<=8/\1<=t.a/\t.a<=3)
def qey (t:Tk):Decidable (LevP t):=inferInstanceAs (Decidable ((t.l=0/\t.a=0)\/(1<=t.l/\t.l<=8/\1<=t.a/\t.a<=3)))
def levB (t:Tk):Bool:=haveI:=qey t;decide (LevP t)
theorem qas{t:Tk}:levB t=true↔LevP t:=@decide_eq_true_iff (LevP t) (qey t)
theorem qqb{t:Tk}(h:¬LevP t):levB t=false:=@decide_eq_false (LevP t) (qey t) h
def at9 (l:List Int) (i:Int):Int:=(l[i.toNat]?).getD 0
def levS (o:Option (List Int)) (t:Tk):Option (List Int) :=
 match o with
 | none=>none
 | some l=>haveI:=qey t;if LevP t/\(at9 l t.l=0\/at9 l t.l=t.a) then some (l.set t.l.toNat t.a) else none
def jw:List Int:=[0,0,0,0,0,0,0,0,0]
def levF (ts:List Tk):Option (List Int):=ts.foldl levS (some jw)
theorem qh4(ts:List Tk):ts.foldl levS none=none:=by
 induction ts with
 | nil=>rfl
 | cons t r ih=>exact ih
theorem qcg(ts:List Tk)(t:Tk):levF (ts++[t])=levS (levF ts) t:=by unfold levF;rw[List.foldl_append];rfl
theorem zw{α:Type}{l:List α}{k:Nat}{x:α}(h:l[k]?=some x):l.take (k+1)=l.take k++[x]:=by
 rw[List.take_add_one,h];rfl
theorem qdg{ts:List Tk}{k:Nat}(h:levF (ts.take k)=none):levF ts=none:=by
 conv=>lhs;rw[<-List.take_append_drop k ts]
 unfold levF at h ⊢;rw[List.foldl_append,h,qh4]
theorem qlr{l l':List Int}{t:Tk}(h:levS (some l) t=some l')(a:l.length=9):l'.length=9:=by
 unfold levS at h;simp only at h
 split at h
 ·cases h;simpa using a
 ·cases h
theorem qh5:∀(ts:List Tk) (l l':List Int),l.length=9->ts.foldl levS (some l)=some l'->l'.length=9
 | [],l,l',hl,h=>by cases h;exact hl
 | t :: r,l,l',hl,h=>by
  have h:r.foldl levS (levS (some l) t)=some l':=h
  cases a:levS (some l) t with
  | none=>rw[a,qh4]at h;cases h
  | some m=>rw[a]at h;exact qh5 r m l' (qlr a hl) h
theorem yv{ts:List Tk}{l:List Int}(h:levF ts=some l):l.length=9:=qh5 ts jw l rfl h
def qbm (l:List Int):Prop:=∀k:Nat,2<=k->k<9->(l[k]?).getD 0≠0->(l[k - 1]?).getD 0≠0
def TokP (ts:List Tk):Prop :=
 (∀(i:Nat) (t:Tk),ts[i]?=some t->kd t.n/\∀(j:Nat) (u:Tk),j<i->ts[j]?=some u->u.n≠t.n)/\∃l,levF ts=some l/\qbm l
def j5 (r:Ru):Prop:=kd r.l/\r.r.length<=20/\xw r.p/\∀x∈r.r,kd x
structure MayP (G:Gm):Prop where
 nt:G.ts.length<=40
 nr:G.rs.length<=100
 e0:0<=G.e
 e1:G.e<=9999
 st:xw G.s
 tk:TokP G.ts
 rl:∀r∈G.rs,j5 r
structure Small (G:Gm):Prop where
 nt:G.ts.length<=100
 nr:G.rs.length<=200
 st:G.s.size<=100
 tk:∀t∈G.ts,t.n.size<=100
 rl:∀r∈G.rs,r.l.size<=100/\r.p.size<=100/\r.r.length<=100/\∀x∈r.r,x.size<=100
structure SR where
 l:Int
 r:List Nat
 lv:Int
 a:Int
structure Sp where
 tk:Nat
 nt:Nat
 st:Nat
 ex:Int
 nm:List ByteArray
 lv:List Int
 az:List Int
 rs:List SR
structure WF (S:Sp):Prop where
 nm:S.nm.length=S.tk+1+S.nt
 lv:S.lv.length=S.tk
 az:S.az.length=S.tk
 tk:S.tk<=100
 nt:S.nt<=200
 nr:S.rs.length<=300
 hd:S.rs[0]?=some ⟨-1,[S.st],0,0⟩
 st:S.tk<S.st/\S.st<S.tk+1+S.nt
 rl:∀(i:Nat) (r:SR),0<i->S.rs[i]?=some r->∃x:Nat,r.l=(x:Int)/\S.tk<x/\x<S.tk+1+S.nt
 rr:∀r∈S.rs,r.r.length<=100/\∀y∈r.r,y<S.tk+1+S.nt
def Der (S:Sp) (x:Nat):Prop:=∀P:Nat->Prop,(∀x,x<S.tk->P x)->(∀(i:Nat) (r:SR) (x:Nat),0<i->S.rs[i]?=some r->r.l=(x:Int)->(∀y∈r.r,P y)->P x)->P x
theorem Der.tok{S:Sp}(x:Nat)(h:x<S.tk):Der S x:=fun _ a _=>a x h
theorem Der.rule{S:Sp}(i:Nat)(r:SR)(x:Nat)(b:0<i)(f:S.rs[i]?=some r)(d:r.l=(x:Int))(h:∀y∈r.r,Der S y):Der S x:=fun P c a=>a i r x b f d (fun y g=>h y g P c a)
def Rch (S:Sp) (x:Nat):Prop:=∀P:Nat->Prop,P S.st->(∀(i:Nat) (r:SR) (x y:Nat),0<i->S.rs[i]?=some r->r.l=(x:Int)->P x->y∈r.r->P y)->P x
theorem Rch.start{S:Sp}:Rch S S.st:=fun _ a _=>a
theorem Rch.rule{S:Sp}(i:Nat)(r:SR)(x y:Nat)(b:0<i)(f:S.rs[i]?=some r)(d:r.l=(x:Int))(h:Rch S x)(g:y∈r.r):Rch S y:=fun P c a=>a i r x y b f d (h P c a) g
def xm (p:Nat->Prop) (l:List Bool):Prop:=∀(x:Nat) (b:Bool),l[x]?=some b->(b=true↔p x)
def isF (fd:List Bool) (x:Nat):Bool:=(fd[x]?).getD false
def prc (fd:List Bool) (fr:List Nat) (x:Nat):Bool:=isF fd x && !fr.contains x
def nU (P:Nat->Bool) (l:List Nat):Nat:=l.countP (fun x=>!P x)
theorem qjw{fd:List Bool}{x:Nat}(h:isF fd x=true):x<fd.length:=by
 unfold isF at h
 rcases Nat.lt_or_ge x fd.length with hx | hx
 ·exact hx
 ·rw[List.getElem?_eq_none hx]at h;cases h
theorem vy{fd:List Bool}{x:Nat}(h:x<fd.length):fd[x]?=some (isF fd x):=by
 unfold isF;rw[List.getElem?_eq_getElem h];rfl
theorem ky{fd:List Bool}{x:Nat}(h:x<fd.length)(y:Nat):isF (fd.set x true) y=if y=x then true else isF fd y:=by
 unfold isF;rw[List.getElem?_set]
 by_cases a:x=y
 ·subst a;simp[h]
 ·rw[if_neg a,if_neg (fun e=>a e.symm)]
theorem qat{fd:List Bool}{x y:Nat}(h:x<fd.length)(a:isF fd y=true):isF (fd.set x true) y=true:=by
 rw[ky h];split
 ·rfl
 ·exact a
theorem qqc{fd:List Bool}{a:List Nat}{x:Nat}(h:x<fd.length)(c:isF fd x=false):prc (fd.set x true) (a++[x])=prc fd a:=by
 funext y;unfold prc;rw[ky h]
 by_cases b:y=x
 ·subst b;simp[c]
 ·rw[if_neg b]
  have:(a++[x]).contains y=a.contains y:=by simp[b]
  rw[this]
theorem qmi{fd:List Bool}{a:List Nat}{x:Nat}(c:isF fd x=true)(d:x ∉ a)(y:Nat):prc fd a y=if y=x then true else prc fd (a++[x]) y:=by
 unfold prc
 by_cases b:y=x
 ·subst b;simp[c,d]
 ·rw[if_neg b]
  have:(a++[x]).contains y=a.contains y:=by simp[b]
  rw[this]
theorem qjx{fd:List Bool}{a:List Nat}{x:Nat}(d:isF fd x=true)(f:x ∉ a):∀l:List Nat,nU (prc fd (a++[x])) l=nU (prc fd a) l+l.count x
 | []=>rfl
 | y :: l=>by
  have g:=qjx d f l;unfold nU at g ⊢;rw[List.countP_cons,List.countP_cons,List.count_cons,g];have b:=qmi d f y
  by_cases c:y=x
  ·subst c;rw[if_pos rfl]at b
   have h:prc fd (a++[y]) y=false:=by unfold prc;simp
   rw[b,h];simp;omega
  ·rw[if_neg c]at b;rw[b];simp[c];omega
theorem qmj{P:Nat->Bool}{l:List Nat}:nU P l=0↔∀x∈l,P x=true:=by
 unfold nU;rw[List.countP_eq_zero]
 constructor
 ·intro h x a;have:=h x a;simpa using this
 ·intro h x a;simp[h x a]
theorem qto{P:Nat->Bool}(a:∀x,P x=false)(l:List Nat):nU P l=l.length:=by
 unfold nU;rw[List.countP_eq_length];intro x _;simp[a x]
def lft (n:Nat) (fd:List Bool) (fr:List Nat):Nat:=nU (prc fd fr) (List.range n)
theorem qmk{n:Nat}{fd:List Bool}{a:List Nat}{x:Nat}(c:x<n)(b:isF fd x=true)(d:x ∉ a):lft n fd a<lft n fd (a++[x]):=by
 unfold lft;rw[qjx b d];have:0<(List.range n).count x:=List.count_pos_iff.2 (List.mem_range.2 c);omega
structure MK (n:Nat) (fd:List Bool) (fr:List Nat):Prop where
 len:fd.length=n
 nd:fr.Nodup
 fd:∀x∈fr,isF fd x=true
theorem MK.mark{n:Nat}{fd:List Bool}{c:List Nat}{x:Nat}(h:MK n fd c)(i:x<n)(g:isF fd x=false):MK n (fd.set x true) (c++[x]):=by
 refine⟨by rw[List.length_set];exact h.len,?_,?_⟩
 ·rw[List.nodup_append];refine⟨h.nd,by simp,?_⟩;intro a f b d e;rw[List.mem_singleton]at d;subst d;subst e;have:=h.fd a f;rw[g]at this
  cases this
 ·intro y j;rw[ky (by rw[h.len];exact i)]
  split
  ·rfl
  ·rcases List.mem_append.1 j with h1 | h1
   ·exact h.fd y h1
   ·rw[List.mem_singleton]at h1
    contradiction
theorem MK.pop{n:Nat}{fd:List Bool}{a:List Nat}{x:Nat}(h:MK n fd (a++[x])):MK n fd a/\x ∉ a/\isF fd x=true/\x<n:=by
 have b:=List.nodup_append.1 h.nd;have c:=h.fd x (by simp);refine⟨⟨h.len,b.1,fun y f=>h.fd y (List.mem_append_left _ f)⟩,?_,c,by have:=qjw c;rw[h.len]at this;exact this⟩
 intro d;exact b.2.2 x d x (by simp) rfl
theorem qb2:∀(n:Nat) (l:List Nat),l.Nodup->(∀x∈l,x<n)->l.length<=n
 | 0,l,_,h=>by
  cases l with
  | nil=>exact Nat.le_refl _
  | cons a r=>exact absurd (h a (by simp)) (Nat.not_lt_zero _)
 | n+1,l,hd,h=>by
  have f:=qb2 n (l.filter (fun x=>x != n)) (hd.filter _) (fun x b=>by
   rw[List.mem_filter]at b;have:=h x b.1
   have g:x≠n:=by simpa using b.2
   omega)
  have d:=List.length_eq_countP_add_countP (fun x=>x != n) (l:=l);rw[List.countP_eq_length_filter]at d
  have i:List.countP (fun a=>!(a != n)) l<=1:=by
   have e:List.countP (fun a=>!(a != n)) l=l.count n:=by
    unfold List.count
    congr 1
    funext a
    cases h:a == n <;> simp_all
   rw[e]
   by_cases c:n∈l
   ·rw[hd.count,if_pos c];exact Nat.le_refl _
   ·rw[List.count_eq_zero.2 c];omega
  have j:List.countP (fun a=>decide ¬(a != n)=true) l=List.countP (fun a=>!(a != n)) l:=by
   congr 1
   funext a
   cases a != n <;> simp
  omega
theorem MK.le{n:Nat}{fd:List Bool}{a:List Nat}(h:MK n fd a):a.length<=n :=
 qb2 n a h.nd (fun x b=>by have:=qjw (h.fd x b);rw[h.len]at this;exact this)
def mkd (fd:List Bool) (fr:List Nat) (x:Nat):List Bool × List Nat:=if isF fd x then (fd,fr) else (fd.set x true,fr++[x])
structure Adds (n:Nat) (fd:List Bool) (fr:List Nat) (fd':List Bool) (fr':List Nat):Prop where
 ok:MK n fd' fr'
 up:∀x,isF fd x=true->isF fd' x=true
 pr:prc fd' fr'=prc fd fr
theorem Adds.refl{n:Nat}{fd:List Bool}{a:List Nat}(h:MK n fd a):Adds n fd a fd a:=⟨h,fun _ h=>h,rfl⟩
theorem Adds.trans{n:Nat}{fd a b:List Bool}{f c d:List Nat}(h:Adds n fd f a c)(k:Adds n a c b d):Adds n fd f b d:=⟨k.ok,fun x g=>k.up x (h.up x g),k.pr.trans h.pr⟩
theorem qch{n:Nat}{fd:List Bool}{b:List Nat}{x:Nat}(h:MK n fd b)(f:x<n):Adds n fd b (mkd fd b x).1 (mkd fd b x).2/\isF (mkd fd b x).1 x=true/\∀y,isF (mkd fd b x).1 y=true->isF fd y=true\/y=x:=by
 unfold mkd
 cases d:isF fd x
 ·have c:x<fd.length:=by rw[h.len];exact f
  refine⟨⟨h.mark f d,fun y a=>qat c a,qqc c d⟩,?_,?_⟩
  ·simp only[Bool.false_eq_true,if_false];rw[ky c,if_pos rfl]
  ·intro y a;simp only[Bool.false_eq_true,if_false]at a;rw[ky c]at a
   split at a
   ·right;assumption
   ·exact .inl a
 ·exact⟨Adds.refl h,d,fun y a=>.inl a⟩
theorem qjy{n:Nat}{fd a:List Bool}{c b:List Nat}(h:Adds n fd c a b):lft n a b=lft n fd c:=by unfold lft;rw[h.pr]
def Wts (S:Sp) (i:Nat) (wt:List (List Nat)):Prop:=∀(x:Nat) (l:List Nat),wt[x]?=some l->∀j,l.count j=match S.rs[j]? with | some r=>if 0<j/\j<i then r.r.count x else 0 | none=>0
def Miss (S:Sp) (ms:List Int) (P:Nat->Bool) (ex:Nat->Nat):Prop:=∀(i:Nat) (r:SR),0<i->S.rs[i]?=some r->ms[i]?=some ((nU P r.r+ex i:Nat):Int)
def Zero (S:Sp) (ms:List Int) (fd:List Bool):Prop:=∀(i:Nat) (r:SR) (x:Nat),0<i->S.rs[i]?=some r->r.l=(x:Int)->ms[i]?=some 0->isF fd x=true
def qbb (S:Sp) (fd:List Bool):Prop:=∀x,isF fd x=true->Der S x
def Toks (S:Sp) (fd:List Bool):Prop:=∀x,x<S.tk->isF fd x=true
theorem qe9{S:Sp}{fd:List Bool}(d:∀(i:Nat) (r:SR) (x:Nat),0<i->S.rs[i]?=some r->r.l=(x:Int)->(∀y∈r.r,isF fd y=true)->isF fd x=true)(hd:qbb S fd)(f:Toks S fd):xm (Der S) fd:=by
 have a:∀x,Der S x->isF fd x=true:=by
  intro x g;exact g (fun x=>isF fd x=true) f d
 intro x b c
 constructor
 ·rintro rfl;exact hd x (by unfold isF;rw[c];rfl)
 ·intro h;have:=a x h;unfold isF at this;rw[c]at this;exact this
theorem qml(fd:List Bool)(x:Nat):prc fd [] x=isF fd x:=by unfold prc;simp
theorem qnf{S:Sp}{c:List Int}{fd:List Bool}(f:Miss S c (prc fd []) (fun _=>0))(j:Zero S c fd)(hd:qbb S fd)(g:Toks S fd):xm (Der S) fd:=by
 refine qe9 (fun i r x a b d k=>j i r x a b d ?_) hd g;rw[f i r a b];have:nU (prc fd []) r.r=0:=qmj.2 (fun y h=>by rw[qml];exact k y h)
 rw[this];rfl
def qol (S:Sp) (fd:List Bool):Prop:=∀x,isF fd x=true->Rch S x
def Clo (S:Sp) (P:Nat->Bool) (fd:List Bool):Prop:=∀(i:Nat) (r:SR) (x y:Nat),0<i->S.rs[i]?=some r->r.l=(x:Int)->P x=true->y∈r.r->isF fd y=true
theorem qls{S:Sp}{fd:List Bool}(d:Clo S (isF fd) fd)(hd:qol S fd)(f:isF fd S.st=true):xm (Rch S) fd:=by
 have a:∀x,Rch S x->isF fd x=true:=by
  intro x g;exact g (fun x=>isF fd x=true) f d
 intro x b c
 constructor
 ·rintro rfl;exact hd x (by unfold isF;rw[c];rfl)
 ·intro h;have:=a x h;unfold isF at this;rw[c]at this;exact this
theorem qqd{S:Sp}{f:List Int}{fd:List Bool}{a:List Nat}{x:Nat}{l:List Nat}{g:List (List Nat)}(m:Miss S f (prc fd (a++[x])) (fun _=>0))(h:isF fd x=true)(o:x ∉ a)(n:Wts S S.rs.length g)(k:g[x]?=some l):Miss S f (prc fd a) (fun i=>(l.drop 0).count i):=by
 intro i r d c;have j:=(List.getElem?_eq_some_iff.1 c).1;have b:=n x l k i;rw[c]at b;simp only[d,j,and_self,if_true]at b;rw[m i r d c,qjx h o];simp only[List.drop_zero,Nat.add_zero,b]
theorem qom{S:Sp}{g:List Int}{P:Nat->Bool}{l:List Nat}{k i:Nat}(t:l[k]?=some i){r:SR}(s:0<i)(o:S.rs[i]?=some r)(n:Miss S g P (fun j=>(l.drop k).count j)):∃z:Int,g[i]?=some z/\1<=z/\z<=(r.r.length+l.length:Nat)/\Miss S (g.set i (z - 1)) P (fun j=>(l.drop (k+1)).count j):=by
 have hd:l.drop k=i :: l.drop (k+1):=by
  have d:=(List.getElem?_eq_some_iff.1 t)
  obtain⟨h,m⟩:=d;rw[<-m];exact(List.drop_eq_getElem_cons h)
 have p:=n i r s o;refine⟨_,p,?_,?_,?_⟩
 ·rw[hd];simp;omega
 ·have h:nU P r.r<=r.r.length:=List.countP_le_length;have m:(l.drop k).count i<=l.length:=Nat.le_trans List.count_le_length (by simp);simp only;omega
 ·intro j q c f;rw[List.getElem?_set];have b:=(List.getElem?_eq_some_iff.1 p).1
  by_cases a:i=j
  ·subst a;rw[if_pos rfl,if_pos b];rw[o]at f
   cases f
   rw[hd];simp;omega
  ·rw[if_neg a,n j q c f,hd];simp[a]
def Nul (S:Sp) (x:Nat):Prop:=∀P:Nat->Prop,(∀(i:Nat) (r:SR) (x:Nat),0<i->S.rs[i]?=some r->r.l=(x:Int)->(∀y∈r.r,P y)->P x)->P x
theorem Nul.rule{S:Sp}(i:Nat)(r:SR)(x:Nat)(b:0<i)(d:S.rs[i]?=some r)(c:r.l=(x:Int))(h:∀y∈r.r,Nul S y):Nul S x:=fun P a=>a i r x b d c (fun y f=>h y f P a)
def FstP (S:Sp) (x a:Nat):Prop:=∀P:Nat->Nat->Prop,(∀x,x<S.tk->P x x)->(∀(i:Nat) (r:SR) (x y a:Nat) (u v:List Nat),0<i->S.rs[i]?=some r->r.l=(x:Int)->r.r=u++y :: v->(∀z∈u,Nul S z)->P y a->P x a)->P x a
theorem FstP.tok{S:Sp}(x:Nat)(h:x<S.tk):FstP S x x:=fun _ a _=>a x h
theorem FstP.rule{S:Sp}(i:Nat)(r:SR)(x y a:Nat)(u v:List Nat)(c:0<i)(j:S.rs[i]?=some r)(g:r.l=(x:Int))(f:r.r=u++y :: v)(k:∀z∈u,Nul S z)(h:FstP S y a):FstP S x a:=fun P d b=>b i r x y a u v c j g f k (h P d b)
def FstL (S:Sp) (l:List Nat) (a:Nat):Prop:=∃u y v,l=u++y :: v/\(∀z∈u,Nul S z)/\FstP S y a
def FolP (S:Sp) (x a:Nat):Prop:=∀P:Nat->Nat->Prop,P S.st S.tk->(∀(i:Nat) (r:SR) (x y a:Nat) (u v:List Nat),0<i->S.rs[i]?=some r->r.l=(x:Int)->r.r=u++y :: v->S.tk<y->FstL S v a->P y a)->(∀(i:Nat) (r:SR) (x y a:Nat) (u v:List Nat),0<i->S.rs[i]?=some r->r.l=(x:Int)->r.r=u++y :: v->S.tk<y->(∀z∈v,Nul S z)->P x a->P y a)->P x a
theorem FolP.start{S:Sp}:FolP S S.st S.tk:=fun _ a _ _=>a
theorem FolP.first{S:Sp}(i:Nat)(r:SR)(x y a:Nat)(u v:List Nat)(b:0<i)(g:S.rs[i]?=some r)(f:r.l=(x:Int))(d:r.r=u++y :: v)(j:S.tk<y)(h:FstL S v a):FolP S y a:=fun _ _ c _=>c i r x y a u v b g f d j h
theorem FolP.last{S:Sp}(i:Nat)(r:SR)(x y a:Nat)(u v:List Nat)(c:0<i)(k:S.rs[i]?=some r)(j:r.l=(x:Int))(g:r.r=u++y :: v)(n:S.tk<y)(m:∀z∈v,Nul S z)(h:FolP S x a):FolP S y a:=fun P d f b=>b i r x y a u v c k j g n m (h P d f b)
theorem qdh{S:Sp}{a:Nat}:¬FstL S [] a:=fun⟨u,y,v,h,_⟩=>by cases u <;> cases h
theorem qbc{S:Sp}{x a:Nat}{l:List Nat}:FstL S (x :: l) a↔FstP S x a\/(Nul S x/\FstL S l a):=by
 constructor
 ·rintro⟨u,y,v,h,c,d⟩
  cases u with
  | nil=>cases h;exact .inl d
  | cons z u =>
   cases h
   exact .inr ⟨c _ (by simp),u,y,v,rfl,fun w f=>c w (List.mem_cons_of_mem _ f),d⟩
 ·rintro(h | ⟨h,u,y,v,rfl,c,d⟩)
  ·exact⟨[],x,l,rfl,(fun z b=>by cases b),h⟩
  ·refine⟨x :: u,y,v,rfl,fun z b=>?_,d⟩
   rcases List.mem_cons.1 b with rfl | b
   ·exact h
   ·exact c z b
theorem FstP.lt{S:Sp}{x a:Nat}(h:FstP S x a):a<S.tk:=h (fun _ a=>a<S.tk) (fun _ h=>h) (fun _ _ _ _ _ _ _ _ _ _ _ _ h=>h)
def Wy (W:List (List Nat)) (a b:Nat):Prop:=∃l,W[a]?=some l/\b∈l
def Got (W:List (List Nat)) (a b:Nat):Prop:=∀P:Nat->Prop,P a->(∀x y,P x->Wy W x y->P y)->P b
theorem Got.refl{W:List (List Nat)}(a:Nat):Got W a a:=fun _ h _=>h
theorem Got.step{W:List (List Nat)}{a b c:Nat}(h:Got W a b)(k:Wy W b c):Got W a c:=fun P f d=>d b c (h P f d) k
theorem Got.trans{W:List (List Nat)}{a b c:Nat}(h:Got W a b)(k:Got W b c):Got W a c:=fun P f d=>k P (h P f d) d
theorem Got.head{W:List (List Nat)}{a b c:Nat}(h:Wy W a b)(k:Got W b c):Got W a c:=((Got.refl a).step h).trans k
theorem qfn{W:List (List Nat)}{M:Nat->Nat->Prop}(h:∀a b t,Wy W a b->M b t->M a t){a t:Nat}(g:Got W a t)(i:M t t):M a t:=by
 have:=g (fun b=>∀t,M b t->M a t) (fun _ h=>h) (fun x y c d t f=>c t (h x y t d f));exact this t i
theorem qb3{W:List (List Nat)}{a b:Nat}{l:List Nat}(g:W[a]?=some l)(x y:Nat):Wy (W.set a (l++[b])) x y↔Wy W x y\/(x=a/\y=b):=by
 have i:=(List.getElem?_eq_some_iff.1 g).1;unfold Wy;rw[List.getElem?_set]
 by_cases d:a=x
 ·subst d;rw[if_pos rfl,if_pos i,g]
  constructor
  ·rintro⟨m,c,f⟩
   cases c
   rcases List.mem_append.1 f with h | h
   ·exact .inl ⟨l,rfl,h⟩
   ·exact .inr ⟨rfl,List.mem_singleton.1 h⟩
  ·rintro(⟨m,c,f⟩ | ⟨-,rfl⟩)
   ·cases c
    exact⟨_,rfl,List.mem_append_left _ f⟩
   ·exact⟨_,rfl,by simp⟩
 ·rw[if_neg d]
  constructor
  ·exact .inl
  ·rintro(h | ⟨h,-⟩)
   ·exact h
   ·exact absurd h.symm d
theorem qcx{W:List (List Nat)}{m:List Nat}(x y:Nat):Wy (W++[m]) x y↔Wy W x y\/(x=W.length/\y∈m):=by
 unfold Wy
 rcases Nat.lt_or_ge x W.length with h | h
 ·rw[List.getElem?_append_left h]
  constructor
  ·exact .inl
  ·rintro(c | ⟨c,-⟩)
   ·exact c
   ·omega
 ·rw[List.getElem?_append_right h,List.getElem?_eq_none h]
  constructor
  ·rintro⟨l,a,b⟩;have d:=(List.getElem?_eq_some_iff.1 a).1;simp at d
   have:x=W.length:=by omega
   subst this;simp at a;subst a;exact .inr ⟨rfl,b⟩
  ·rintro(⟨l,a,-⟩ | ⟨rfl,b⟩)
   ·cases a
   ·exact⟨m,by simp,b⟩
def Rest (E:Nat->Prop) (W:List (List Nat)) (c:Nat):List Nat->Nat->Prop
 | [],p=>p=c
 | z :: v,p=>(E z/\∃q,Wy W p z/\Wy W p q/\Rest E W c v q)\/(¬E z/\p=z)
theorem Rest.mono{E:Nat->Prop}{W d:List (List Nat)}{c:Nat}(h:∀a b,Wy W a b->Wy d a b):∀(v:List Nat) (p:Nat),Rest E W c v p->Rest E d c v p
 | [],_,k=>k
 | _ :: v,_,k=>by
  rcases k with ⟨h1,q,h2,h3,h4⟩ | k
  ·exact .inl ⟨h1,q,h _ _ h2,h _ _ h3,Rest.mono h v q h4⟩
  ·exact .inr k
theorem Rest.first{E:Nat->Prop}{W:List (List Nat)}{c t:Nat}:∀(v:List Nat) (p:Nat),Rest E W c v p->∀(u:List Nat) (y:Nat) (v':List Nat),v=u++y :: v'->(∀z∈u,E z)->Got W y t->Got W p t
 | [],_,_,u,y,v',he,_,_=>by cases u <;> cases he
 | z :: v,p,k,u,y,v',he,hu,hg=>by
  cases u with
  | nil =>
   cases he
   rcases k with ⟨-,q,h2,-,-⟩ | ⟨-,rfl⟩
   ·exact Got.head h2 hg
   ·exact hg
  | cons w u =>
   cases he
   rcases k with ⟨-,q,-,h3,h4⟩ | ⟨h1,-⟩
   ·exact Got.head h3 (Rest.first _ q h4 u y v' rfl (fun z a=>hu z (List.mem_cons_of_mem _ a)) hg)
   ·exact absurd (hu _ (by simp)) h1
theorem Rest.last{E:Nat->Prop}{W:List (List Nat)}{c t:Nat}:∀(v:List Nat) (p:Nat),Rest E W c v p->(∀z∈v,E z)->Got W c t->Got W p t
 | [],_,rfl,_,hg=>hg
 | z :: v,p,k,hu,hg=>by
  rcases k with ⟨-,q,-,h3,h4⟩ | ⟨h1,-⟩
  ·exact Got.head h3 (Rest.last _ q h4 (fun z a=>hu z (List.mem_cons_of_mem _ a)) hg)
  ·exact absurd (hu _ (by simp)) h1
def LS (S:Sp) (v:List Nat) (x t:Nat):Prop:=FstL S v t\/((∀z∈v,Nul S z)/\FolP S x t)
structure Mng (S:Sp) (n:Nat) (M:Nat->Nat->Prop):Prop where
 sym:∀x,x<n->∀t,M x t↔FstP S x t\/(x=S.tk/\t=S.tk)
 fol:∀x,x<n->∀t,M (n+x) t↔FolP S x t
def qjn (S:Sp) (W:List (List Nat)) (i:Nat):Prop:=∀(j:Nat) (r:SR) (x y:Nat) (u v:List Nat),0<j->j<i->S.rs[j]?=some r->r.l=(x:Int)->r.r=u++y :: v->(∀z∈u,Nul S z)->Wy W x y
def qez (S:Sp) (n:Nat) (W:List (List Nat)) (i:Nat):Prop:=∀(j:Nat) (r:SR) (x y:Nat) (u v:List Nat),0<j->j<i->S.rs[j]?=some r->r.l=(x:Int)->r.r=u++y :: v->S.tk<y->∃p,Wy W (n+y) p/\Rest (Nul S) W (n+x) v p
def yf (W:List (List Nat)) (M:Nat->Nat->Prop):Prop:=∀a b t,Wy W a b->M b t->M a t
def Ins (W:List (List Nat)):Prop:=∀a b,Wy W a b->b<W.length
structure Ways (S:Sp) (n:Nat) (W:List (List Nat)):Prop where
 len:2 * n<=W.length
 mng:∃M,Mng S n M/\yf W M
 fst:qjn S W S.rs.length
 bck:qez S n W S.rs.length
 st:Wy W (n+S.st) S.tk
 ins:Ins W
theorem Ways.got_fst{S:Sp}{n:Nat}{W:List (List Nat)}(h:Ways S n W){x t:Nat}(q:x<n)(c:x≠S.tk)(z:t<=S.tk)(s:S.tk<n):Got W x t↔FstP S x t:=by
 obtain⟨M,d,k⟩:=h.mng
 constructor
 ·intro b
  have j:M t t:=by
   rw[d.sym t (by omega)]
   rcases Nat.lt_or_ge t S.tk with h2 | h2
   ·exact .inl (FstP.tok t h2)
   ·exact .inr ⟨by omega,by omega⟩
  rcases (d.sym x q t).1 (qfn k b j) with h2 | h2
  ·exact h2
  ·exact absurd h2.1 c
 ·intro m;refine m (fun x t=>Got W x t) (fun x _=>Got.refl x) ?_;intro i r x y a u v g f o l p b;exact Got.head (h.fst i r x y u v g (List.getElem?_eq_some_iff.1 f).1 f o l p) b
theorem Ways.got_fol{S:Sp}{n:Nat}{W:List (List Nat)}(h:Ways S n W){x t:Nat}(I:x<n)(K:t<=S.tk)(F:S.tk<n)(G:∀r∈S.rs,∀y∈r.r,y<n/\y≠S.tk):Got W (n+x) t↔FolP S x t:=by
 obtain⟨M,s,C⟩:=h.mng
 constructor
 ·intro d
  have B:M t t:=by
   rw[s.sym t (by omega)]
   rcases Nat.lt_or_ge t S.tk with h2 | h2
   ·exact .inl (FstP.tok t h2)
   ·exact .inr ⟨by omega,by omega⟩
  exact(s.fol x I t).1 (qfn C d B)
 ·intro D;refine D (fun x t=>Got W (n+x) t) ((Got.refl _).step h.st) ?_ ?_
  ·intro i r x y a u v j b k g q d;obtain⟨p,l,m⟩:=h.bck i r x y u v j (List.getElem?_eq_some_iff.1 b).1 b k g q;obtain⟨J,z,v',c,o,A⟩:=d
   have E:z∈r.r:=by rw[g,c];simp
   have f:=G r (List.mem_of_getElem? b) z E;exact Got.head l (m.first v p J z v' c o ((h.got_fst f.1 f.2 (Nat.le_of_lt A.lt) F).2 A))
  ·intro i r x y a u v j b k g q H d;obtain⟨p,l,m⟩:=h.bck i r x y u v j (List.getElem?_eq_some_iff.1 b).1 b k g q;exact Got.head l (m.last v p H d)
theorem Ways.got_end{S:Sp}{n:Nat}{W:List (List Nat)}(h:Ways S n W){t:Nat}(i:t<=S.tk)(g:S.tk<n)(a:∀t,¬FstP S S.tk t):Got W S.tk t↔t=S.tk:=by
 obtain⟨M,b,d⟩:=h.mng
 constructor
 ·intro f
  have c:M t t:=by
   rw[b.sym t (by omega)]
   rcases Nat.lt_or_ge t S.tk with h2 | h2
   ·exact .inl (FstP.tok t h2)
   ·exact .inr ⟨by omega,by omega⟩
  rcases (b.sym S.tk g t).1 (qfn d f c) with h2 | h2
  ·exact absurd h2 (a t)
  ·exact h2.2
 ·rintro rfl;exact Got.refl _
theorem vz{l:List Nat}{k y:Nat}(h:l[k]?=some y):l.drop k=y :: l.drop (k+1):=by
 obtain⟨a,b⟩:=List.getElem?_eq_some_iff.1 h;rw[<-b];exact List.drop_eq_getElem_cons a
theorem qjz{l u v:List Nat}{y:Nat}(h:l=u++y :: v):l[u.length]?=some y/\l.drop (u.length+1)=v:=by
 subst h
 constructor
 ·rw[List.getElem?_append_right (Nat.le_refl _),Nat.sub_self];rfl
 ·rw[List.drop_append,List.drop_eq_nil_of_le (by omega)]
  have:u.length+1 - u.length=1:=by omega
  rw[this];rfl
def tot (W:List (List Nat)):Nat:=(W.map List.length).sum
theorem qcy{b:Nat}:∀{W:List (List Nat)} {a:Nat} {l:List Nat},W[a]?=some l->tot (W.set a (l++[b]))=tot W+1
 | [],_,_,h=>by cases h
 | m :: W,0,l,h=>by
  cases h
  simp[tot];omega
 | m :: W,a+1,l,h=>by
  have c:=qcy (b:=b) (W:=W) (a:=a) (l:=l) h;simp only[tot,List.set_cons_succ,List.map_cons,List.sum_cons]at c ⊢;omega
theorem qfo(W:List (List Nat))(m:List Nat):tot (W++[m])=tot W+m.length:=by
 simp[tot]
theorem qge:∀{W:List (List Nat)} {a:Nat} {l:List Nat},W[a]?=some l->l.length<=tot W
 | [],_,_,h=>by cases h
 | m :: W,0,l,h=>by cases h;simp[tot]
 | m :: W,a+1,l,h=>by
  have b:=qge (W:=W) (a:=a) (l:=l) h;simp only[tot,List.map_cons,List.sum_cons]at b ⊢;omega
theorem qe0{W:List (List Nat)}{a b:Nat}{l:List Nat}(h:Ins W)(f:W[a]?=some l)(d:b<W.length):Ins (W.set a (l++[b])):=by
 intro x y c;rw[List.length_set]
 rcases (qb3 f x y).1 c with h1 | ⟨-,rfl⟩
 ·exact h x y h1
 ·exact d
theorem qfp{W:List (List Nat)}{m:List Nat}(h:Ins W)(b:∀y∈m,y<W.length):Ins (W++[m]):=by
 intro x y a;rw[List.length_append]
 rcases (qcx x y).1 a with h1 | ⟨-,h1⟩
 ·have:=h x y h1;omega
 ·have:=b y h1;omega
theorem qef{W:List (List Nat)}{M:Nat->Nat->Prop}{a b:Nat}{l:List Nat}(h:yf W M)(g:W[a]?=some l)(f:∀t,M b t->M a t):yf (W.set a (l++[b])) M:=by
 intro x y t c d
 rcases (qb3 g x y).1 c with h1 | ⟨rfl,rfl⟩
 ·exact h x y t h1 d
 ·exact f t d
theorem qon(S:Sp)(n:Nat):(∃M,Mng S n M/\yf (List.replicate (2 * n) []) M)/\Ins (List.replicate (2 * n) [])/\tot (List.replicate (2 * n) [])=0:=by
 have c:∀a b,¬Wy (List.replicate (2 * n) []) a b:=by
  rintro a b ⟨l,g,d⟩;have:=List.mem_of_getElem? g;rw[List.mem_replicate]at this;rw[this.2]at d
  cases d
 refine⟨⟨fun a t=>if a<n then FstP S a t\/(a=S.tk/\t=S.tk) else FolP S (a - n) t,⟨fun x f t=>by rw[if_pos f],fun x f t=>?_⟩,fun a b t h=>absurd h (c a b)⟩,fun a b h=>absurd h (c a b),?_⟩
 ·have:¬n+x<n:=by omega
  rw[if_neg this]
  have e:n+x - n=x:=by omega
  rw[e]
 ·unfold tot;rw[List.map_replicate];simp
def yg (E:Nat->Prop) (l:List Nat) (k y:Nat):Prop:=∃j,j<k/\l[j]?=some y/\∀z∈l.take j,E z
theorem yg.step{E:Nat->Prop}{l:List Nat}{k:Nat}(f:∀z∈l.take k,E z){y:Nat}(c:l[k]?=some y)(x:Nat):yg E l (k+1) x↔yg E l k x\/x=y:=by
 constructor
 ·rintro⟨j,d,a,b⟩
  rcases Nat.lt_or_ge j k with h | h
  ·exact .inl ⟨j,h,a,b⟩
  ·have:j=k:=by omega
   subst this;rw[c]at a
   cases a
   exact .inr rfl
 ·rintro(⟨j,d,a,b⟩ | rfl)
  ·exact⟨j,by omega,a,b⟩
  ·exact⟨k,by omega,c,f⟩
theorem yg.stop{E:Nat->Prop}{l:List Nat}{k y:Nat}(c:l[k]?=some y)(g:¬E y)(x:Nat):yg E l l.length x↔yg E l (k+1) x:=by
 have m:=(List.getElem?_eq_some_iff.1 c).1
 constructor
 ·rintro⟨j,d,b,a⟩;refine⟨j,?_,b,a⟩
  rcases Nat.lt_or_ge k j with h | h
  ·refine absurd (a y ?_) g;rw[List.mem_take_iff_getElem];obtain⟨i,f⟩:=List.getElem?_eq_some_iff.1 c;exact⟨k,by omega,f⟩
  ·omega
 ·rintro⟨j,d,b,a⟩;exact⟨j,by omega,b,a⟩
structure FA (S:Sp) (n x:Nat) (l:List Nat) (W0 W:List (List Nat)) (k:Nat):Prop where
 len:W.length=W0.length
 wy:∀a b,Wy W a b↔Wy W0 a b\/(a=x/\yg (Nul S) l k b)
 ins:Ins W
 mng:∃M,Mng S n M/\yf W M
 tot:tot W<=tot W0+k
theorem FA.begin{S:Sp}{n x:Nat}{l:List Nat}{W:List (List Nat)}(c:Ins W)(d:∃M,Mng S n M/\yf W M):FA S n x l W W 0 :=
 ⟨rfl,fun a b=>⟨.inl,fun h=>h.elim id (fun⟨_,j,h,_⟩=>absurd h (Nat.not_lt_zero _))⟩,c,d,by omega⟩
theorem FA.lay{S:Sp}{n x i:Nat}{r:SR}{j W:List (List Nat)}{k y:Nat}(h:FA S n x r.r j W k)(v:0<i)(B:S.rs[i]?=some r)(C:r.l=(x:Int))(u:r.r[k]?=some y)(q:y≠S.tk)(p:y<n)(o:x<n)(D:n<=j.length)(s:∀z∈r.r.take k,Nul S z){l:List Nat}(g:W[x]?=some l):FA S n x r.r j (W.set x (l++[y])) (k+1):=by
 refine⟨by rw[List.length_set];exact h.len,fun a b=>?_,qe0 h.ins g (by rw[h.len];omega),?_,by rw[qcy g];have:=h.tot;omega⟩
 ·rw[qb3 g,h.wy,yg.step s u]
  constructor
  ·rintro((c | ⟨c,d⟩) | ⟨c,d⟩)
   ·exact .inl c
   ·exact .inr ⟨c,.inl d⟩
   ·exact .inr ⟨c,.inr d⟩
  ·rintro(c | ⟨c,d | d⟩)
   ·exact .inl (.inl c)
   ·exact .inl (.inr ⟨c,d⟩)
   ·exact .inr ⟨c,d⟩
 ·obtain⟨M,m,A⟩:=h.mng;refine⟨M,m,qef A g (fun t f=>?_)⟩;rw[m.sym y p]at f;rw[m.sym x o]
  rcases f with f | f
  ·refine .inl (FstP.rule i r x y t (r.r.take k) (r.r.drop (k+1)) v B C ?_ s f);rw[<-vz u,List.take_append_drop]
  ·exact absurd f.1 q
theorem FA.stop{S:Sp}{n x:Nat}{l:List Nat}{c W:List (List Nat)}{k y:Nat}(h:FA S n x l c W (k+1))(d:l[k]?=some y)(f:¬Nul S y):FA S n x l c W l.length:=by
 have g:=(List.getElem?_eq_some_iff.1 d).1;refine⟨h.len,fun a b=>?_,h.ins,h.mng,by have:=h.tot;omega⟩
 rw[h.wy,yg.stop d f]
theorem FA.laid{S:Sp}{n x i:Nat}{r:SR}{g W:List (List Nat)}(h:FA S n x r.r g W r.r.length)(s:S.rs[i]?=some r)(y:r.l=(x:Int))(p:qjn S g i):qjn S W (i+1):=by
 intro j q a b u v o z d k c m;rw[h.wy]
 rcases Nat.lt_or_ge j i with h1 | h1
 ·exact .inl (p j q a b u v o h1 d k c m)
 ·have:j=i:=by omega
  subst this;rw[s]at d
  cases d
  rw[y]at k
  have f:x=a:=by omega
  subst f;have t:=qjz c;refine .inr ⟨rfl,u.length,by rw[c];simp,t.1,?_⟩
  have:r.r.take u.length=u:=by rw[c];simp
  rw[this];exact m
theorem qhd{S:Sp}{n:Nat}{W c:List (List Nat)}{i:Nat}(h:∀a b,Wy W a b->Wy c a b)(k:qez S n W i):qez S n c i:=by
 intro j r x y u v d m q o l s;obtain⟨p,f,g⟩:=k j r x y u v d m q o l s;exact⟨p,h _ _ f,Rest.mono h v p g⟩
structure FB (S:Sp) (n x:Nat) (l:List Nat) (W0 W:List (List Nat)) (k p:Nat):Prop where
 up:∀a b,Wy W0 a b->Wy W a b
 len:W0.length<=W.length
 ins:Ins W
 pl:p<W.length
 mng:∃M,Mng S n M/\yf W M/\∀t,M p t->LS S (l.drop k) x t
 rest:Rest (Nul S) W (n+x) (l.drop k) p
 laid:∀j y,k<=j->l[j]?=some y->S.tk<y->∃q,Wy W (n+y) q/\Rest (Nul S) W (n+x) (l.drop (j+1)) q
 tot:tot W+3 * k<=tot W0+3 * l.length
 lle:W.length+k<=W0.length+l.length
theorem FB.begin{S:Sp}{n x:Nat}{l:List Nat}{W:List (List Nat)}(c:Ins W)(d:∃M,Mng S n M/\yf W M)(g:x<n)(m:2 * n<=W.length):FB S n x l W W l.length (n+x):=by
 obtain⟨M,a,b⟩:=d;refine⟨fun _ _ h=>h,Nat.le_refl _,c,by omega,⟨M,a,b,fun t f=>.inr ⟨by simp,(a.fol x g t).1 f⟩⟩,?_,fun j y k i=>?_,by omega,by omega⟩
 ·simp[Rest]
 ·have:=(List.getElem?_eq_some_iff.1 i).1;omega
structure FB1 (S:Sp) (n x:Nat) (l:List Nat) (W0 W:List (List Nat)) (k p y:Nat):Prop where
 up:∀a b,Wy W0 a b->Wy W a b
 len:W0.length<=W.length
 ins:Ins W
 pl:p<W.length
 mng:∃M,Mng S n M/\yf W M/\∀t,M p t->LS S (l.drop (k+1)) x t
 rest:Rest (Nul S) W (n+x) (l.drop (k+1)) p
 laid:∀j y,k<=j->l[j]?=some y->S.tk<y->∃q,Wy W (n+y) q/\Rest (Nul S) W (n+x) (l.drop (j+1)) q
 at_:l[k]?=some y
 tot:tot W+3 * k+2<=tot W0+3 * l.length
 lle:W.length+k+1<=W0.length+l.length
theorem FB.skip{S:Sp}{n x:Nat}{l:List Nat}{b W:List (List Nat)}{k p y:Nat}(h:FB S n x l b W (k+1) p)(d:l[k]?=some y)(f:¬S.tk<y):FB1 S n x l b W k p y:=by
 refine⟨h.up,h.len,h.ins,h.pl,h.mng,h.rest,fun j z g a c=>?_,d,by have:=h.tot;omega,by have:=h.lle;omega⟩
 rcases Nat.lt_or_ge k j with h1 | h1
 ·exact h.laid j z h1 a c
 ·have:j=k:=by omega
  subst this;rw[d]at a
  cases a
  exact absurd c f
theorem FB.lay{S:Sp}{n x i:Nat}{r:SR}{B W:List (List Nat)}{k p y:Nat}(h:FB S n x r.r B W (k+1) p)(C:0<i)(G:S.rs[i]?=some r)(H:r.l=(x:Int))(u:r.r[k]?=some y)(f:S.tk<y)(v:y<n){m:List Nat}(d:W[n+y]?=some m):FB1 S n x r.r B (W.set (n+y) (m++[p])) k p y:=by
 have c:∀a b,Wy W a b->Wy (W.set (n+y) (m++[p])) a b:=fun a b s=>(qb3 d a b).2 (.inl s)
 have E:r.r=r.r.take k++y :: r.r.drop (k+1):=by rw[<-vz u,List.take_append_drop]
 refine⟨fun a b s=>c a b (h.up a b s),by rw[List.length_set];exact h.len,qe0 h.ins d h.pl,by rw[List.length_set];exact h.pl,?_,h.rest.mono c _ _,fun j z K A o=>?_,u,by rw[qcy d];have:=h.tot;omega,by rw[List.length_set];have:=h.lle;omega⟩
 ·obtain⟨M,D,J,F⟩:=h.mng;refine⟨M,D,qef J d (fun t o=>?_),F⟩;rw[D.fol y v]
  rcases F t o with h1 | ⟨h1,g⟩
  ·exact FolP.first i r x y t _ _ C G H E f h1
  ·exact FolP.last i r x y t _ _ C G H E f h1 g
 ·rcases Nat.lt_or_ge k j with h1 | h1
  ·obtain⟨q,g,I⟩:=h.laid j z h1 A o;exact⟨q,c _ _ g,I.mono c _ _⟩
  ·have:j=k:=by omega
   subst this;rw[u]at A
   cases A
   exact⟨p,(qb3 d _ _).2 (.inr ⟨rfl,rfl⟩),h.rest.mono c _ _⟩
theorem FB1.sym{S:Sp}{n x:Nat}{l:List Nat}{b W:List (List Nat)}{k p y:Nat}(h:FB1 S n x l b W k p y)(g:¬Nul S y)(c:y<n)(d:y≠S.tk)(j:n<=b.length):FB S n x l b W k y:=by
 refine⟨h.up,h.len,h.ins,by have:=h.len;omega,?_,?_,h.laid,by have:=h.tot;omega,by have:=h.lle;omega⟩
 ·obtain⟨M,f,i,-⟩:=h.mng;refine⟨M,f,i,fun t a=>?_⟩;rw[f.sym y c]at a;rw[vz h.at_]
  rcases a with a | a
  ·exact .inl (qbc.2 (.inl a))
  ·exact absurd a.1 d
 ·rw[vz h.at_];exact .inr ⟨g,rfl⟩
theorem FB1.fork{S:Sp}{n x:Nat}{l:List Nat}{g W:List (List Nat)}{k p y:Nat}(h:FB1 S n x l g W k p y)(o:Nul S y)(v:y<n)(A:y≠S.tk)(J:2 * n<=g.length):FB S n x l g (W++[[y,p]]) k W.length:=by
 have B:=h.len
 have d:∀a b,Wy W a b->Wy (W++[[y,p]]) a b:=fun a b u=>(qcx a b).2 (.inl u)
 refine⟨fun a b u=>d a b (h.up a b u),by rw[List.length_append];omega,qfp h.ins (fun z c=>?_),by simp,?_,?_,fun j z G c f=>?_,by rw[qfo];have:=h.tot;simp;omega,by rw[List.length_append];have:=h.lle;simp;omega⟩
 ·rcases List.mem_cons.1 c with rfl | c
  ·omega
  ·rw[List.mem_singleton]at c;subst c;exact h.pl
 ·obtain⟨M,r,D,I⟩:=h.mng;refine⟨fun a t=>if a=W.length then LS S (l.drop k) x t else M a t,⟨fun z c t=>?_,fun z c t=>?_⟩,fun a b t s=>?_,fun t=>?_⟩
  ·have:z≠W.length:=by omega
   rw[if_neg this];exact r.sym z c t
  ·have:n+z≠W.length:=by omega
   rw[if_neg this];exact r.fol z c t
  ·simp only
   rcases (qcx a b).1 s with h1 | ⟨rfl,h1⟩
   ·have F:=h.ins a b h1
    have E:a<W.length:=by obtain⟨m,H,-⟩:=h1;exact(List.getElem?_eq_some_iff.1 H).1
    rw[if_neg (Nat.ne_of_lt F),if_neg (Nat.ne_of_lt E)];exact D a b t h1
   ·rw[if_pos rfl,vz h.at_]
    rcases List.mem_cons.1 h1 with rfl | h1
    ·have:b≠W.length:=by omega
     rw[if_neg this,r.sym b v];rintro(f | f)
     ·exact .inl (qbc.2 (.inl f))
     ·exact absurd f.1 A
    ·rw[List.mem_singleton]at h1;subst h1;rw[if_neg (Nat.ne_of_lt h.pl)];intro f
     rcases I t f with h1 | ⟨h1,i⟩
     ·exact .inl (qbc.2 (.inr ⟨o,h1⟩))
     ·refine .inr ⟨fun z c=>?_,i⟩
      rcases List.mem_cons.1 c with rfl | c
      ·exact o
      ·exact h1 z c
  ·simp only[if_true];exact id
 ·rw[vz h.at_];exact .inl ⟨o,p,(qcx _ _).2 (.inr ⟨rfl,by simp⟩),(qcx _ _).2 (.inr ⟨rfl,by simp⟩),h.rest.mono d _ _⟩
 ·obtain⟨q,i,C⟩:=h.laid j z G c f;exact⟨q,d _ _ i,C.mono d _ _⟩
theorem FB.done{S:Sp}{n x i p:Nat}{r:SR}{f W:List (List Nat)}(h:FB S n x r.r f W 0 p)(B:S.rs[i]?=some r)(C:r.l=(x:Int))(A:qez S n f i):qez S n W (i+1):=by
 intro j q a b u v s D c k o m
 rcases Nat.lt_or_ge j i with h1 | h1
 ·exact qhd h.up A j q a b u v s h1 c k o m
 ·have:j=i:=by omega
  subst this;rw[B]at c
  cases c
  rw[C]at k
  have d:x=a:=by omega
  subst d;obtain⟨t,y⟩:=qjz o;obtain⟨q,z,g⟩:=h.laid u.length b (Nat.zero_le _) t m;rw[y]at g;exact⟨q,z,g⟩
structure WI (S:Sp) (n:Nat) (W:List (List Nat)) (i:Nat):Prop where
 len:2 * n<=W.length
 mng:∃M,Mng S n M/\yf W M
 fst:qjn S W i
 bck:qez S n W i
 ins:Ins W
 tot:tot W<=1000 * i
 lle:W.length<=2 * n+100 * i
theorem WI.begin(S:Sp)(n:Nat):WI S n (List.replicate (2 * n) []) 1:=by
 obtain⟨b,c,f⟩:=qon S n;exact⟨by simp,b,fun j r x y u v a d=>by omega,fun j r x y u v a d=>by omega,c,by omega,by simp⟩
theorem WI.first{S:Sp}{n x i:Nat}{r:SR}{a W:List (List Nat)}(h:WI S n a i)(k:FA S n x r.r a W r.r.length):(∃M,Mng S n M/\yf W M)/\Ins W/\2 * n<=W.length:=⟨k.mng,k.ins,by rw[k.len];exact h.len⟩
theorem WI.next{S:Sp}{n x i p:Nat}{r:SR}{c d W:List (List Nat)}(h:WI S n c i)(k:FA S n x r.r c d r.r.length)(q:FB S n x r.r d W 0 p)(f:S.rs[i]?=some r)(g:r.l=(x:Int))(E:r.r.length<=100):WI S n W (i+1):=by
 have B:=k.laid f g h.fst;have G:=k.tot;have H:=q.tot;have I:=q.lle;have J:=h.tot;have K:=h.lle;have L:=k.len;have N:=q.len;have O:=h.len;refine⟨by omega,?_,?_,?_,q.ins,by omega,by omega⟩
 ·obtain⟨M,D,C,-⟩:=q.mng;exact⟨M,D,C⟩
 ·intro j r x y u v m s z t o A;exact q.up _ _ (B j r x y u v m s z t o A)
 ·exact q.done f g (qhd (fun a b F=>(k.wy a b).2 (.inl F)) h.bck)
theorem WI.done{S:Sp}{n:Nat}{W:List (List Nat)}(h:WI S n W S.rs.length)(B:S.st<n)(C:S.tk<n)(g:∀t,¬FstP S S.tk t){l:List Nat}(d:W[n+S.st]?=some l):Ways S n (W.set (n+S.st) (l++[S.tk])):=by
 have c:∀a b,Wy W a b->Wy (W.set (n+S.st) (l++[S.tk])) a b:=fun a b D=>(qb3 d a b).2 (.inl D)
 have i:=h.len;refine⟨by rw[List.length_set];exact h.len,?_,?_,qhd c h.bck,(qb3 d _ _).2 (.inr ⟨rfl,rfl⟩),qe0 h.ins d (by omega)⟩
 ·obtain⟨M,f,z⟩:=h.mng;refine⟨M,f,qef z d (fun t A=>?_)⟩;rw[f.fol _ B]
  rcases (f.sym _ C t).1 A with h1 | h1
  ·exact absurd h1 (g t)
  ·rw[h1.2];exact FolP.start
 ·intro j r x y u v k o q p m s;exact c _ _ (h.fst j r x y u v k o q p m s)
def IsL (m:Nat) (P:Nat->Prop) (l:List Nat):Prop:=∃b:Nat->Bool,(∀t,t<m->(b t=true↔P t))/\l=(List.range m).filter b
theorem IsL.uni{m:Nat}{P:Nat->Prop}{l l':List Nat}(h:IsL m P l)(k:IsL m P l'):l=l':=by
 obtain⟨b,d,rfl⟩:=h;obtain⟨c,f,rfl⟩:=k;refine List.filter_congr (fun t a=>?_);have a:=List.mem_range.1 a;have:=(d t a).trans (f t a).symm
 cases g:b t <;> cases i:c t <;> simp_all
theorem IsL.congr{m:Nat}{P Q:Nat->Prop}{l:List Nat}(h:IsL m P l)(k:∀t,t<m->(P t↔Q t)):IsL m Q l:=by
 obtain⟨b,c,rfl⟩:=h;exact⟨b,fun t a=>(c t a).trans (k t a),rfl⟩
theorem IsL.up{m f:Nat}{P:Nat->Prop}{l:List Nat}(h:IsL m P l)(o:m<=f)(k:∀t,P t->t<m):IsL f P l:=by
 obtain⟨b,g,rfl⟩:=h;refine⟨fun t=>b t && decide (t<m),fun t i=>?_,?_⟩
 ·rw[Bool.and_eq_true,decide_eq_true_eq]
  constructor
  ·rintro⟨c,j⟩;exact(g t j).1 c
  ·intro c;exact⟨(g t (k t c)).2 c,k t c⟩
 ·obtain⟨d,rfl⟩:∃d,f=m+d:=⟨f - m,by omega⟩
  rw[List.range_add,List.filter_append]
  have c:List.filter (fun t=>b t && decide (t<m)) ((List.range d).map (fun x=>m+x))=[]:=by
   rw[List.filter_eq_nil_iff];intro a n;obtain⟨x,-,rfl⟩:=List.mem_map.1 n;simp
  rw[c,List.append_nil];refine List.filter_congr (fun t i=>?_);have:=List.mem_range.1 i;simp[this]
def upTo (b:Nat->Bool) (k:Nat):List Nat:=(List.range k).filter b
theorem qoo(b:Nat->Bool)(k:Nat):upTo b (k+1)=if b k then upTo b k++[k] else upTo b k:=by
 unfold upTo;rw[List.range_succ,List.filter_append]
 cases h:b k <;> simp[h]
def un:List (List Nat)->List Bool->Nat
 | [],_=>0
 | _ :: _,[]=>0
 | l :: W,b :: s=>(if b then 0 else l.length)+un W s
theorem qop:∀(W:List (List Nat)),un W (List.replicate W.length false)=tot W
 | []=>rfl
 | l :: W=>by
  have a:=qop W;simp only[un,tot,List.length_cons,List.replicate_succ,List.map_cons,List.sum_cons]at a ⊢;simp[a]
theorem qoq:∀{W:List (List Nat)} {s:List Bool} {x:Nat} {l:List Nat},s.length=W.length->W[x]?=some l->isF s x=false->un W (s.set x true)+l.length=un W s
 | [],_,_,_,_,h,_=>by cases h
 | _ :: _,[],_,_,hl,_,_=>by cases hl
 | m :: W,b :: s,0,l,_,h,hf=>by
  cases h
  have:b=false:=by simpa [isF] using hf
  subst this;simp[un];omega
 | m :: W,b :: s,x+1,l,hl,h,hf=>by
  have a:=qoq (W:=W) (s:=s) (x:=x) (l:=l) (by simpa using hl) (by simpa using h) (by simpa [isF] using hf);simp only[un,List.set_cons_succ];omega
structure Dfs (W:List (List Nat)) (frm:List Nat) (seen:List Bool) (todo:List Nat):Prop where
 len:seen.length=W.length
 ins:∀x∈todo,x<W.length
 snd:∀x,isF seen x=true\/x∈todo->∃a∈frm,Got W a x
 beg:∀a∈frm,isF seen a=true\/a∈todo
 clo:∀x y,isF seen x=true->Wy W x y->isF seen y=true\/y∈todo
 siz:todo.length+un W seen<=frm.length+tot W
theorem qj0(n x:Nat):isF (List.replicate n false) x=false:=by
 cases h:isF (List.replicate n false) x with
 | false=>rfl
 | true =>
  unfold isF at h
  cases a:(List.replicate n false)[x]? with
  | none=>rw[a]at h;cases h
  | some b =>
   rw[a]at h;have:=List.mem_of_getElem? a;rw[List.mem_replicate]at this;rw[this.2]at h
   cases h
theorem Dfs.begin{W:List (List Nat)}{b:List Nat}(h:∀x∈b,x<W.length):Dfs W b (List.replicate W.length false) b :=
 ⟨by simp,h,fun x d=>d.elim (fun h=>by rw[qj0]at h;cases h) (fun h=>⟨x,h,Got.refl x⟩),fun a c=>.inr c,(fun x y h=>by rw[qj0]at h;cases h),by rw[qop];exact Nat.le_refl _⟩
theorem Dfs.pass{W:List (List Nat)}{d:List Nat}{b:List Bool}{t:List Nat}{x:Nat}(h:Dfs W d b (t++[x]))(j:isF b x=true):Dfs W d b t/\t.length+un W b<(t++[x]).length+un W b:=by
 have f:∀y,isF b y=true\/y∈t++[x]->isF b y=true\/y∈t:=by
  rintro y (c | c)
  ·exact .inl c
  ·rcases List.mem_append.1 c with c | c
   ·exact .inr c
   ·rw[List.mem_singleton]at c;subst c;exact .inl j
 refine⟨⟨h.len,fun y c=>h.ins y (by simp[c]),fun y c=>h.snd y (c.imp id (fun h=>by simp[h])),fun a g=>f a (h.beg a g),fun y z c i=>f z (h.clo y z c i),?_⟩,by simp⟩;have:=h.siz;simp at this;omega
theorem Dfs.take{W:List (List Nat)}{f:List Nat}{c:List Bool}{t l:List Nat}{x:Nat}(h:Dfs W f c (t++[x]))(r:Ins W)(u:isF c x=false)(k:W[x]?=some l):Dfs W f (c.set x true) (t++l)/\(t++l).length+un W (c.set x true)<(t++[x]).length+un W c:=by
 have d:x<c.length:=by rw[h.len];exact(List.getElem?_eq_some_iff.1 k).1
 have A:=qoq h.len k u
 have o:∀y,y∈l->Wy W x y:=fun y b=>⟨l,k,b⟩
 obtain⟨n,g,i⟩:=h.snd x (.inr (by simp))
 have j:∀y,isF c y=true\/y∈t++[x]->isF (c.set x true) y=true\/y∈t++l:=by
  rintro y (b | b)
  ·exact .inl (qat d b)
  ·rcases List.mem_append.1 b with b | b
   ·exact .inr (List.mem_append_left _ b)
   ·rw[List.mem_singleton]at b;subst b;exact .inl (by rw[ky d,if_pos rfl])
 refine⟨⟨by rw[List.length_set];exact h.len,fun y b=>?_,fun y b=>?_,fun a s=>j a (h.beg a s),fun y z b q=>?_,?_⟩,by simp;omega⟩
 ·rcases List.mem_append.1 b with b | b
  ·exact h.ins y (by simp[b])
  ·exact r x y (o y b)
 ·rcases b with b | b
  ·rw[ky d]at b
   split at b
   ·subst_vars;exact⟨n,g,i⟩
   ·exact h.snd y (.inl b)
  ·rcases List.mem_append.1 b with b | b
   ·exact h.snd y (.inr (by simp[b]))
   ·exact⟨n,g,i.step (o y b)⟩
 ·rw[ky d]at b
  split at b
  ·subst_vars
   obtain⟨m,p,v⟩:=q;rw[k]at p
   cases p
   exact .inr (List.mem_append_right _ v)
  ·exact j z (h.clo y z b q)
 ·have:=h.siz;simp at this ⊢;omega
theorem Dfs.done{W:List (List Nat)}{c:List Nat}{b:List Bool}(h:Dfs W c b [])(x:Nat):isF b x=true↔∃a∈c,Got W a x:=by
 constructor
 ·intro k;exact h.snd x (.inl k)
 ·rintro⟨a,g,i⟩
  have f:∀y,isF b y=true\/y∈[]->isF b y=true:=fun y d=>d.elim id (fun h=>by cases h)
  exact i (fun y=>isF b y=true) (f a (h.beg a g)) (fun y z d j=>f z (h.clo y z d j))
theorem Dfs.told{W:List (List Nat)}{c:List Nat}{b:List Bool}(h:Dfs W c b []){d:Nat}(j:d<W.length):IsL (d+1) (fun t=>∃a∈c,Got W a t) (upTo (fun x=>isF b x && decide (x<=d)) W.length):=by
 have f:IsL (d+1) (fun t=>∃a∈c,Got W a t) (upTo (fun x=>isF b x) (d+1)):=⟨fun x=>isF b x,fun t _=>h.done t,rfl⟩
 have g:IsL W.length (fun t=>(∃a∈c,Got W a t)/\t<=d) (upTo (fun x=>isF b x) (d+1)):=(f.congr (fun t j=>⟨fun h=>⟨h,by omega⟩,fun h=>h.1⟩)).up (by omega) (fun t h=>by omega)
 have i:IsL W.length (fun t=>(∃a∈c,Got W a t)/\t<=d) (upTo (fun x=>isF b x && decide (x<=d)) W.length):=⟨_,fun t _=>by rw[Bool.and_eq_true,decide_eq_true_eq,h.done],rfl⟩
 rw[i.uni g];exact f
end Go.Proofs.YtbdogaaooeoccaaGreatDoor
