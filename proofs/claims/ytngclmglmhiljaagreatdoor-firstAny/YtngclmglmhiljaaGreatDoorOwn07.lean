/- Texts that the proofs of the First statements stand on, part Own07. -/
import Derived.Deep.RegionHeld
import Derived.Test.YtngclmglmhiljaaGreatDoorOwn06
set_option maxHeartbeats 16000000
set_option maxRecDepth 100000
namespace Go.Proofs.YtngclmglmhiljaaGreatDoor
open Go.RowKit
def Emp (S:Sp) (i:Nat) (ms:List Int) (fd:List Bool):Prop:=∀ (j:Nat) (r:SR),0<j->j<i->S.rs[j]?=some r->ms[j]?=some ((r.r.length:Nat):Int)/\∀ xl:Nat,r.r=[]->r.l=(xl:Int)->isF fd xl=true
structure Y1 (w W:World) (h:SHd) (S:Sp) (p:YP) (b4 gm n:Nat) (i i2 k:Nat) (va:Option Addr) (vc:Nat) (vs:List (Option Addr × Nat)) (fd:List Bool) (fr:List Nat) (ms:List Int) (wt:List (List Nat)):Prop where
 ym:YM w W h S p b4 gm va vc vs fd fr ms wt
 ml:ms.length=S.rs.length
 wl:wt.length=n
 ok:MK n fd fr
 np:∀ x,isF fd x=true->x∈fr
 der:yo S fd
 emp:Emp S i2 ms fd
 wts:WtsK S i k wt
 rows:∀ (x:Nat) (l:List Nat),wt[x]?=some l->l.length<=i * 100+k
theorem Y1.below {w W W':World} {h:SHd} {S:Sp} {p:YP} {b4 gm n i i2 k:Nat} {va:Option Addr} {vc:Nat} {vs:List (Option Addr × Nat)} {fd:List Bool} {fr:List Nat} {ms:List Int} {wt:List (List Nat)} (y:Y1 w W h S p b4 gm n i i2 k va vc vs fd fr ms wt) (hb:Below W.heap.size W W'):Y1 w W' h S p b4 gm n i i2 k va vc vs fd fr ms wt :=
 ⟨y.ym.below hb,y.ml,y.wl,y.ok,y.np,y.der,y.emp,y.wts,y.rows⟩
theorem qq4 {fd:List Bool} {fr:List Nat} {x:Nat} (h:∀ z,isF fd z=true->z∈fr) (hx:x<fd.length):∀ z,isF (mkd fd fr x).1 z=true->z∈(mkd fd fr x).2:=by
 intro z hz
 unfold mkd at hz ⊢
 cases hf:isF fd x
 ·rw [hf] at hz
  simp only [Bool.false_eq_true,if_false] at hz ⊢
  rw [k8 hx] at hz
  split at hz
  ·rename_i e;subst e;simp
  ·exact List.mem_append_left _ (h z hz)
 ·rw [hf] at hz
  exact h z hz
theorem qr7 {S:Sp} {i:Nat} {ms:List Int} {fd fd':List Bool} (h:Emp S i ms fd) (up:∀ z,isF fd z=true->isF fd' z=true):Emp S i ms fd' :=
 fun j r h0 h1 hr=>⟨(h j r h0 h1 hr).1,fun xl e hl=>up xl ((h j r h0 h1 hr).2 xl e hl)⟩
theorem Y1.mark {w W W':World} {h:SHd} {S:Sp} {p:YP} {b4 gm n i i2 k x:Nat} {va va':Option Addr} {vc vc':Nat} {vs:List (Option Addr × Nat)} {fd:List Bool} {fr:List Nat} {ms:List Int} {wt:List (List Nat)} (y:Y1 w W h S p b4 gm n i i2 k va vc vs fd fr ms wt) (hx:x<n) (hd:Der S x) (hm:Mrk W' w.heap.size p.mb p.fb va' vc' (mkd fd fr x).1 (mkd fd fr x).2) (hv:MMv W p.mb p.fb va W' va') :
  Y1 w W' h S p b4 gm n i i2 k va' vc' vs (mkd fd fr x).1 (mkd fd fr x).2 ms wt/\isF (mkd fd fr x).1 x=true/\∀ z,isF fd z=true->isF (mkd fd fr x).1 z=true:=by
 obtain ⟨a1,a2,a3⟩:=y9 y.ok hx
 refine ⟨⟨y.ym.mark hm hv,y.ml,y.wl,a1.ok,qq4 y.np (by rw [y.ok.len];exact hx),fun z hz=>?_,qr7 y.emp a1.up,y.wts,y.rows⟩,a2,a1.up⟩
 rcases a3 z hz with e | e
 ·exact y.der z e
 ·subst e;exact hd
theorem Y1.put {w W:World} {h:SHd} {S:Sp} {p:YP} {b4 gm n i k:Nat} {va:Option Addr} {vc:Nat} {vs:List (Option Addr × Nat)} {fd:List Bool} {fr:List Nat} {ms:List Int} {wt:List (List Nat)} {z:Int} (y:Y1 w W h S p b4 gm n i i k va vc vs fd fr ms wt):Y1 w (W.setCell ⟨gm,i,none⟩ (.int .i64 z)) h S p b4 gm n i i k va vc vs fd fr (ms.set i z) wt :=
 ⟨y.ym.put,by rw [List.length_set];exact y.ml,y.wl,y.ok,y.np,y.der,fun j r h0 h1 hr=>⟨by rw [List.getElem?_set,if_neg (by omega)];exact (y.emp j r h0 h1 hr).1,(y.emp j r h0 h1 hr).2⟩,y.wts,y.rows⟩
theorem Y1.told {w W:World} {h:SHd} {S:Sp} {p:YP} {b4 gm n i k:Nat} {va:Option Addr} {vc:Nat} {vs:List (Option Addr × Nat)} {fd:List Bool} {fr:List Nat} {ms:List Int} {wt:List (List Nat)} {r:SR} (y:Y1 w W h S p b4 gm n i i k va vc vs fd fr ms wt) (hr:S.rs[i]?=some r) (hm:ms[i]?=some ((r.r.length:Nat):Int)) (he:∀ xl:Nat,r.r=[]->r.l=(xl:Int)->isF fd xl=true):Y1 w W h S p b4 gm n i (i+1) k va vc vs fd fr ms wt:=by
 refine ⟨y.ym,y.ml,y.wl,y.ok,y.np,y.der,fun j q h0 h1 hq=>?_,y.wts,y.rows⟩
 rcases Nat.lt_or_ge j i with hlt | hge
 ·exact y.emp j q h0 hlt hq
 ·have:j=i:=by omega
  subst this
  rw [hr] at hq
  cases hq
  exact ⟨hm,he⟩
theorem Y1.next {w W:World} {h:SHd} {S:Sp} {p:YP} {b4 gm n i k:Nat} {va:Option Addr} {vc:Nat} {vs:List (Option Addr × Nat)} {fd:List Bool} {fr:List Nat} {ms:List Int} {wt:List (List Nat)} (y:Y1 w W h S p b4 gm n i (i+1) k va vc vs fd fr ms wt) (hk:(rgt S i).length<=k) (hk2:k<=100):Y1 w W h S p b4 gm n (i+1) (i+1) 0 va vc vs fd fr ms wt :=
 ⟨y.ym,y.ml,y.wl,y.ok,y.np,y.der,y.emp,qob y.wts hk,fun x l hl=>by have:=y.rows x l hl;omega⟩
theorem Y1.skip {w W:World} {h:SHd} {S:Sp} {p:YP} {b4 gm n:Nat} {va:Option Addr} {vc:Nat} {vs:List (Option Addr × Nat)} {fd:List Bool} {fr:List Nat} {ms:List Int} {wt:List (List Nat)} (y:Y1 w W h S p b4 gm n 0 0 0 va vc vs fd fr ms wt):Y1 w W h S p b4 gm n 1 1 0 va vc vs fd fr ms wt :=
 ⟨y.ym,y.ml,y.wl,y.ok,y.np,y.der,fun j q h0 h1 hq=>by omega,qoa y.wts,fun x l hl=>by have:=y.rows x l hl;omega⟩
theorem Y1.push {w W:World} {h:SHd} {S:Sp} {p:YP} {b4 gm n i k x:Nat} {va:Option Addr} {vc:Nat} {vs:List (Option Addr × Nat)} {fd:List Bool} {fr:List Nat} {ms:List Int} {wt:List (List Nat)} (y:Y1 w W h S p b4 gm n i (i+1) k va vc vs fd fr ms wt) (hi:0<i) (hx:(rgt S i)[k]?=some x) (hxn:x<n) (hb:i * 100+k<100000) :
  ∃ qa qm qc g c W',W.cell? ⟨p.wb,x,none⟩=some (.slice qa qm qc)/\qm<=qc/\qc<=9223372036854775807/\(Builtin.append_ #[26,26] 26 #[.slice qa qm qc,.slice (some ⟨W.heap.size,0,none⟩) 1 1]).run Tryz.prog (W.alloc (.cells #[.int .i64 (i:Int)] 3))=.ok (.slice (some ⟨g,0,none⟩) (qm+1) c) W' /\
   W'.cell? ⟨p.wb,x,none⟩=some (.slice qa qm qc)/\W'.frozen? ⟨p.wb,x,none⟩=false/\W'.cell? ⟨p.b5,0,none⟩=some (.slice (some ⟨p.wb,0,none⟩) n n) /\
   ∃ vs' wt',Y1 w (W'.setCell ⟨p.wb,x,none⟩ (.slice (some ⟨g,0,none⟩) (qm+1) c)) h S p b4 gm n i (i+1) (k+1) va vc vs' fd fr ms wt':=by
 obtain ⟨l,hl⟩:∃ l,wt[x]?=some l:=⟨wt[x]'(by rw [y.wl];exact hxn),List.getElem?_eq_getElem _⟩
 obtain ⟨q,hq,c1,-⟩:=y.ym.yb.grd.at hl
 have hlen:=y.rows x l hl
 obtain ⟨g,c,W',hr,d1,f1,d5,yb,hK,hg⟩:=y.ym.yb.push (i:=i) hl hq (by omega)
 have hle:=z8 (y.ym.yb.grd.row x q l hq hl)
 rw [y.wl] at d5
 refine ⟨q.1,l.length,q.2,g,c,W',c1,hle.1,hle.2,hr,d1,f1,d5,_,_,y.ym.push hq yb hK hg,y.ml,by rw [List.length_set];exact y.wl,y.ok,y.np,y.der,y.emp,qoc y.wts hi hx hl,fun z m hm=>?_⟩
 rw [List.getElem?_set] at hm
 split at hm
 ·split at hm
  ·cases hm
   rw [List.length_append]
   simp
   omega
  ·cases hm
 ·have:=y.rows z m hm
  omega
theorem v8 {f:FuncId} {fn:Func} (hf:Tryz.prog.funcs[f]?=some fn) (hname:(fn.name == "runtime.NumGoroutine")=false) (hb:fn.body.isNone=false) (args:Array Value) (w:World):(callFunc f args).run Tryz.prog w=.ok (.enter f args) w:=by
 have h1:fn.name ≠ "runtime.NumGoroutine" := by simpa using hname
 have h2:¬ fn.body.isNone=true:=by rw [hb];simp
 have h3:¬ fn.body=none:=by simpa using h2
 simp [callFunc,hf,h1,h3]
theorem qq5 (args:Array Value) (w:World):(callFunc 78 args).run Tryz.prog w=.ok (.enter 78 args) w:=v8 Tryz.func78 (by kernel_rfl) (by kernel_rfl) args w
theorem ql4 (args:Array Value) (w:World):(callFunc 70 args).run Tryz.prog w=.ok (.enter 70 args) w:=v8 Tryz.func70 (by kernel_rfl) (by kernel_rfl) args w
def IY (w:World) (h:SHd) (S:Sp) (p:YP) (b4 gm n:Nat) (vs:List (Option Addr × Nat)) (wt:List (List Nat)) (W:World) (va:Option Addr) (vc:Nat) (fd:List Bool) (fr:List Nat):Prop :=
 ∃ ms,YM w W h S p b4 gm va vc vs fd fr ms wt/\MK n fd fr/\ms.length=S.rs.length/\Miss S ms (prc fd fr) (fun _=>0)/\Zero S ms fd/\yo S fd/\Toks S fd
theorem qq6 {w:World} {h:SHd} {S:Sp} {p:YP} {b4 gm n:Nat} {vs:List (Option Addr × Nat)} {wt:List (List Nat)}:∀ W va vc fd fr,IY w h S p b4 gm n vs wt W va vc fd fr->MK n fd fr/\∃ fb,Mrk W w.heap.size p.mb fb va vc fd fr:=by
 rintro W va vc fd fr ⟨ms,y,hm,-⟩
 exact ⟨hm,p.fb,y.yb.mrk⟩
theorem qq7 {w:World} {h:SHd} {S:Sp} {p:YP} {b4 gm n:Nat} {vs:List (Option Addr × Nat)} {wt:List (List Nat)} (hwf:WF S) (hsp:IsSp w h S) (hnn:n=S.tk+1+S.nt) (hwl:wt.length=n) (hw:Wts S S.rs.length wt) (hrows:∀ (x:Nat) (l:List Nat),wt[x]?=some l->l.length<=100000) :
  ∀ W va vc fd fr x,IY w h S p b4 gm n vs wt W va vc fd (fr++[x])->Calls Tryz.prog 78 (#[.int .i64 (x:Int)]++#[.pointer (some ⟨p.b5,0,none⟩),.pointer (some ⟨b4,0,none⟩),.pointer (some ⟨p.b3,0,none⟩),.pointer (some ⟨p.b1,0,none⟩)]) (popW W p.mb va fr.length vc) fun e W'=>e=.returned (.tuple #[])/\∃ va' vc' fd' fr',IY w h S p b4 gm n vs wt W' va' vc' fd' fr'/\lft n fd' fr'<lft n fd (fr++[x]):=by
 rintro W va vc fd fr x ⟨ms,y,hm,hml,hM,hZ,hD,hT⟩
 obtain ⟨m1,m2,m3,m4⟩:=hm.pop
 obtain ⟨l,hl⟩:∃ l,wt[x]?=some l:=⟨wt[x]'(by rw [hwl];exact m4),List.getElem?_eq_getElem _⟩
 have y1:LK w (popW W p.mb va fr.length vc) h S p b4 gm vs wt n fd fr l 0:=⟨va,vc,fd,fr,ms,y.pop,hml,Adds.refl m1,qpc hM m3 m2 hw hl,hZ,hD⟩
 refine (qla w _ h S p b4 gm vs wt n x fd fr l y1 hwf hsp hnn hl (qq3 hw hl) hD (hrows x l hl)).mono ?_
 rintro e W' ⟨rfl,va',vc',fd',fr',ms',y',ml',A,M',Z',D'⟩
 refine ⟨rfl,va',vc',fd',fr',⟨ms',y',A.ok,ml',?_,Z',D',fun z hz=>A.up z (hT z hz)⟩,?_⟩
 ·rw [A.pr]
  intro i r h0 hr
  have:=M' i r h0 hr
  rw [List.drop_length] at this
  exact this
 ·rw [qff A]
  exact qg6 m4 m3 m2
theorem qpq {w W:World} {h:SHd} {S:Sp} {p:YP} {b4 gm n:Nat} {va:Option Addr} {vc:Nat} {vs:List (Option Addr × Nat)} {fd:List Bool} {fr:List Nat} {ms:List Int} {wt:List (List Nat)} (y:Y1 w W h S p b4 gm n S.rs.length S.rs.length 0 va vc vs fd fr ms wt) (ht:∀ x,x<S.tk->isF fd x=true):IY w h S p b4 gm n vs wt W va vc fd fr:=by
 have hp:∀ x,prc fd fr x=false:=by
  intro x
  unfold prc
  cases hf:isF fd x
  ·rfl
  ·have:=y.np x hf
   simp [this]
 refine ⟨ms,y.ym,y.ok,y.ml,fun i r h0 hr=>?_,fun i r x h0 hr hl hz=>?_,y.der,ht⟩
 ·rw [qry hp]
  exact (y.emp i r h0 (List.getElem?_eq_some_iff.1 hr).1 hr).1
 ·obtain ⟨h1,h2⟩:=y.emp i r h0 (List.getElem?_eq_some_iff.1 hr).1 hr
  rw [hz] at h1
  simp only [Option.some.injEq] at h1
  exact h2 x (List.eq_nil_of_length_eq_zero (by omega)) hl
def BRes (w w':World) (n:Nat) (P:Nat->Prop) (e:Ending):Prop:=∃ fb fd,e=.returned (.slice (some ⟨fb,0,none⟩) n n)/\fd.length=n/\w'.ownsRow w.heap.size 4 1 (.slice (some ⟨fb,0,none⟩) n n) n (booC fd)/\ko P fd/\Below w.heap.size w w'
theorem qb6 (w:World) (h:SHd) (S:Sp) (n:Nat) (hnn:n=S.tk+1+S.nt) (hwf:WF S) (hsp:IsSp w h S) :
  Calls Tryz.prog 61 #[sv h S] w fun e w'=>BRes w w' n (Der S) e:=by
 have hz:Szs S n:=by rw [hnn];exact hwf.szs
 have hn:n<=1000:=by have:=hwf.tk;have:=hwf.nt;omega
 have hrn:S.rs.length<=300:=hwf.nr
 have HC:Hid (∀ V:World,Calls Tryz.prog 65 #[.agg (sC h S)] V fun e w'=>e=.returned (.int .i64 (n:Int))/\Below V.heap.size V w'):=fun V=>qa0 h S V n hz
 have HSY:Hid (∀ (V:World) (z:Nat),z<n->Calls Tryz.prog 67 #[.agg (sC h S),.int .i64 (z:Int)] V fun e w'=>e=.returned (.bool true)/\Below V.heap.size V w'):=fun V z hx=>qaa h S V n z hz hx
 have HOY:Hid (∀ (V:World) (z:Nat),z<n->S.tk<z->Calls Tryz.prog 66 #[.agg (sC h S),.int .i64 (z:Int)] V fun e w'=>e=.returned (.bool true)/\Below V.heap.size V w'):=fun V z hx ht=>qed h S V n z hz hx ht
 have HON:Hid (∀ (V:World),Calls Tryz.prog 66 #[.agg (sC h S),.int .i64 (-1)] V fun e w'=>e=.returned (.bool false)/\Below V.heap.size V w'):=fun V=>qe3 h S V
 have HWF:Hid (WF S/\IsSp w h S/\n=S.tk+1+S.nt):=⟨hwf,hsp,hnn⟩
 have hB0:Below w.heap.size w (w.alloc (.cells (sC h S) 31)):=qb _ _
 have hs0:(w.alloc (.cells (sC h S) 31)).heap[w.heap.size]?=some (.cells (sC h S) 31 (0,0)):=heap_alloc_new _ _
 obtain ⟨rb,ro,-,-,hra,-⟩:=hsp.rl.at hwf.hd
 have HRA:Hid (h.ra=some ⟨rb,ro,none⟩):=hra
 clear hwf hsp hnn hz
 unfold sv sC
 unfold sC at HC HSY HOY HON
 rw [hra] at HC HSY HOY HON ⊢
 clear hra
 obtain ⟨rn,HRN⟩:∃ rn,Hid (S.rs.length=rn):=⟨_,rfl⟩
 rw [HRN.out] at HC HSY HOY HON hrn ⊢
 go_enter Tryz.func61,Tryz.ntmps61
 go_upto_region 1 with fail
 have e0:w.alloc (.cells #[.int .i64 (S.tk:Int),.int .i64 (S.nt:Int),.int .i64 (S.st:Int),.int .i64 S.ex,.slice h.na S.nm.length h.nc,.slice h.la S.lv.length h.lc,.slice h.aa S.az.length h.ac,.slice (some ⟨rb,ro,none⟩) rn h.rc] 31)=w.alloc (.cells (sC h S) 31):=by unfold sC;rw [HRA.out,HRN.out]
 rw [e0]
 generalize w.alloc (.cells (sC h S) 31)=W0 at hB0 hs0 ⊢
 obtain ⟨b1,HB1⟩:∃ b1,Hid (b1=w.heap.size):=⟨_,rfl⟩
 rw [<-HB1.out] at hs0 ⊢
 obtain ⟨c0,c1,c2,c3,c4,c5,c6,c7⟩:=sbox hs0
 rw [HRA.out,HRN.out] at c7
 have HB0:Hid (Below w.heap.size w W0/\W0.heap[b1]?=some (.cells (sC h S) 31 (0,0))):=⟨hB0,hs0⟩
 clear e0 hB0 hs0
 go_wp2_with fail
 refine (HC.out _).mono ?_
 rintro e W1 ⟨rfl,hB1⟩
 have HB2:Hid (Below w.heap.size w W1/\W1.heap[b1]?=some (.cells (sC h S) 31 (0,0))):=⟨qd HB0.out.1 hB1,qf hB1 HB0.out.2⟩
 clear hB1 HB0
 go_wp2_with fail
 refine (qat W1 n hn).mono ?_
 rintro e W2 ⟨mb,fb,rfl,hM,hB2⟩
 clear c0 c1 c2 c3 c4 c5 c6 c7
 have h3:Below W2.heap.size W2 (W2.alloc (.cells #[.pointer (some ⟨mb,0,none⟩)] 94)):=qb _ _
 have HA:Hid (Below w.heap.size w (W2.alloc (.cells #[.pointer (some ⟨mb,0,none⟩)] 94))/\(W2.alloc (.cells #[.pointer (some ⟨mb,0,none⟩)] 94)).heap[b1]?=some (.cells (sC h S) 31 (0,0))/\(W2.alloc (.cells #[.pointer (some ⟨mb,0,none⟩)] 94)).heap[W2.heap.size]?=some (.cells #[.pointer (some ⟨mb,0,none⟩)] 94 (0,0))/\Mrk (W2.alloc (.cells #[.pointer (some ⟨mb,0,none⟩)] 94)) w.heap.size mb fb none 0 (List.replicate n false) []) :=
  ⟨qd (qd HB2.out.1 hB2) h3,qf h3 (qf hB2 HB2.out.2),heap_alloc_new _ _,(hM.mono HB2.out.1.size).keep (fun k hk=>h3.block k (hM.loc hk).2.1)⟩
 clear hM hB2 HB2 h3
 go_upto_region 2 with fail
 obtain ⟨b3,HB3⟩:∃ b3,Hid (b3=W2.heap.size):=⟨_,rfl⟩
 rw [<-HB3.out] at HA ⊢
 generalize W2.alloc (.cells #[.pointer (some ⟨mb,0,none⟩)] 94)=W3 at HA ⊢
 clear HB3
 obtain ⟨W4,hr4,ho4,hB4⟩:=qn8 W3 w.heap.size rn (by omega) HA.out.1.size
 obtain ⟨-,-,-,-,-,-,-,c7⟩:=sbox HA.out.2.1
 rw [HRA.out,HRN.out] at c7
 have h5:Below W4.heap.size W4 (W4.alloc (.cells #[.slice (some ⟨W3.heap.size,0,none⟩) rn rn] 26)):=qb _ _
 have HE:Hid (Below W3.heap.size W3 (W4.alloc (.cells #[.slice (some ⟨W3.heap.size,0,none⟩) rn rn] 26))/\(W4.alloc (.cells #[.slice (some ⟨W3.heap.size,0,none⟩) rn rn] 26)).heap[W4.heap.size]?=some (.cells #[.slice (some ⟨W3.heap.size,0,none⟩) rn rn] 26 (0,0))/\(W4.alloc (.cells #[.slice (some ⟨W3.heap.size,0,none⟩) rn rn] 26)).ownsRow w.heap.size 3 1 (.slice (some ⟨W3.heap.size,0,none⟩) rn rn) rn (intC (List.replicate rn 0))/\W4.heap.size<(W4.alloc (.cells #[.slice (some ⟨W3.heap.size,0,none⟩) rn rn] 26)).heap.size) :=
  ⟨qd hB4 h5,heap_alloc_new _ _,ho4.alloc _,by rw [qt];omega⟩
 clear ho4 hB4 h5
 have hrc:=j6 HWF.out.2.1.rl
 rw [HRN.out] at hrc
 go_upto_region 3 with fail
 clear hr4 c7
 obtain ⟨gm,HGM⟩:∃ gm,Hid (gm=W3.heap.size):=⟨_,rfl⟩
 obtain ⟨b4,HB4⟩:∃ b4,Hid (b4=W4.heap.size):=⟨_,rfl⟩
 rw [<-HGM.out,<-HB4.out] at HE ⊢
 generalize W4.alloc (.cells #[.slice (some ⟨gm,0,none⟩) rn rn] 26)=W5 at HE ⊢
 have HF5:Hid (Below w.heap.size w W5/\W5.heap[b1]?=some (.cells (sC h S) 31 (0,0))/\W5.heap[b3]?=some (.cells #[.pointer (some ⟨mb,0,none⟩)] 94 (0,0))/\Mrk W5 w.heap.size mb fb none 0 (List.replicate n false) []/\W5.heap[b4]?=some (.cells #[.slice (some ⟨gm,0,none⟩) rn rn] 26 (0,0))/\W5.ownsRow w.heap.size 3 1 (.slice (some ⟨gm,0,none⟩) rn rn) rn (intC (List.replicate rn 0))/\b4<W5.heap.size):=by
  obtain ⟨q1,q2,q3,q4⟩:=HA.out
  obtain ⟨r1,r2,r3,r4⟩:=HE.out
  rw [HGM.out] at r1
  have r1':Below W3.heap.size W3 W5:=r1
  exact ⟨qd q1 r1',qf r1' q2,qf r1' q3,q4.keep (fun k hk=>r1'.block k (q4.loc hk).2.1),r2,r3,r4⟩
 clear HA HE HGM HB4
 obtain ⟨W6,hr6,hG6,hB6⟩:=qcj W5 w.heap.size n hn HF5.out.1.size
 have d3:W5.cell? ⟨b3,0,none⟩=some (.pointer (some ⟨mb,0,none⟩)):=by rw [qe HF5.out.2.2.1];rfl
 have dm:W5.cell? ⟨mb,0,none⟩=some (.slice (some ⟨fb,0,none⟩) n n):=by rw [qe HF5.out.2.2.2.1.box,List.length_replicate];rfl
 have h7:Below W6.heap.size W6 (W6.alloc (.cells #[.slice (some ⟨W5.heap.size,0,none⟩) n n] 38)):=qb _ _
 have H7:Hid (Y1 w (W6.alloc (.cells #[.slice (some ⟨W5.heap.size,0,none⟩) n n] 38)) h S ⟨b1,b3,W6.heap.size,mb,fb,W5.heap.size⟩ b4 gm n 0 0 0 none 0 (List.replicate n (none,0)) (List.replicate n false) [] (List.replicate rn 0) (List.replicate n [])):=by
  obtain ⟨q1,q2,q3,q4,q5,q6,q7⟩:=HF5.out
  have hb:Below W5.heap.size W5 (W6.alloc (.cells #[.slice (some ⟨W5.heap.size,0,none⟩) n n] 38)):=qd hB6 h7
  have isf:∀ x,isF (List.replicate n false) x=true->False:=by
   intro x hx
   unfold isF at hx
   cases hq:(List.replicate n false)[x]? with
   | none=>rw [hq] at hx;cases hx
   | some b =>
    rw [hq] at hx
    have:=List.mem_of_getElem? hq
    rw [List.mem_replicate] at this
    rw [this.2] at hx
    cases hx
  refine ⟨⟨⟨qd q1 hb,qf hb q2,qf hb q3,?_,q4.keep (fun k hk=>hb.block k (q4.loc hk).2.1),hG6.below h7,fun k hk=>(qgl hk).elim⟩,?_,?_,(fun e=>by cases e),fun k hk=>(qgl hk).elim,?_⟩,by rw [List.length_replicate];exact HRN.out.symm,by simp,⟨by simp,List.nodup_nil,(fun x hx=>by cases hx)⟩,fun x hx=>(isf x hx).elim,fun x hx=>(isf x hx).elim,(fun j r h0 h1=>by omega),qn9 S n 0,fun x l hl=>?_⟩
  ·simp only [List.length_replicate]
   exact heap_alloc_new _ _
  ·rw [List.length_replicate]
   exact qf hb q5
  ·rw [List.length_replicate]
   exact qh q6 (fun i hi=>hb.block i (World.ownsRow.lt q6 i hi).2)
  ·simp only
   omega
  ·have:=List.mem_of_getElem? hl
   rw [List.mem_replicate] at this
   rw [this.2]
   simp
 clear hG6 hB6 h7 HF5
 go_upto_region 4 with fail
 clear hr6 d3 dm
 generalize W6.alloc (.cells #[.slice (some ⟨W5.heap.size,0,none⟩) n n] 38)=W7 at H7 ⊢
 generalize W6.heap.size=b5 at H7 ⊢
 generalize W5.heap.size=wb at H7 ⊢
 obtain ⟨p,HP⟩:∃ p:YP,Hid (p=⟨b1,b3,b5,mb,fb,wb⟩):=⟨_,rfl⟩
 have p1:b1=p.b1:=by rw [HP.out]
 have p3:b3=p.b3:=by rw [HP.out]
 have p5:b5=p.b5:=by rw [HP.out]
 have pm:mb=p.mb:=by rw [HP.out]
 have pf:fb=p.fb:=by rw [HP.out]
 have pw:wb=p.wb:=by rw [HP.out]
 rw [<-HP.out] at H7
 clear HP HB1
 subst p1 p3 p5 pm pf pw
 obtain ⟨-,-,-,-,-,-,-,c7⟩:=sbox H7.out.ym.yb.bs
 rw [HRA.out,HRN.out] at c7
 go_upto_block 0 with fail
 clear c7
 go_cut [27] (fun s27 wd=>Hid (∃ va vc vs fd fr ms wt,Y1 w wd h S p b4 gm n rn rn 0 va vc vs fd fr ms wt))
 case first =>
  go_wp2_with fail
  go_loopg [27] rn (fun kx s27 wr=>∃ i:Nat,s27=.int .i64 i/\i<=rn/\rn - i<=kx/\Hid (∃ va vc vs fd fr ms wt,Y1 w wr h S p b4 gm n i i 0 va vc vs fd fr ms wt))
  case atStart=>exact ⟨0,rfl,Nat.zero_le _,by omega,(⟨_,_,_,_,_,_,_,H7.out⟩:∃ va vc vs fd fr ms wt,Y1 w W7 h S p b4 gm n 0 0 0 va vc vs fd fr ms wt)⟩
  case round =>
   clear H7
   obtain ⟨i,rfl,hi,hg,J⟩:=hrel
   by_cases hlt:i<rn
   ·have hlt':(i:Int)<(rn:Int):=by omega
    obtain ⟨va,vc,vs,fd,fr,ms,wt,y⟩:=J.out
    obtain ⟨r,hr⟩:∃ r,S.rs[i]?=some r:=⟨S.rs[i]'(by rw [HRN.out];exact hlt),List.getElem?_eq_getElem _⟩
    obtain ⟨rb2,ro2,xa,xc,hra,d0,d1,d2,d3,hxr⟩:=HWF.out.2.1.rl.at hr
    rw [HRA.out] at hra
    cases hra
    have d0:=qj y.ym.yb.bel d0
    have d1:=qj y.ym.yb.bel d1
    have d2:=qj y.ym.yb.bel d2
    have d3:=qj y.ym.yb.bel d3
    have hxc:=ze hxr
    have hrl:r.r.length<=100:=(HWF.out.1.rr r (List.mem_of_getElem? hr)).1
    have HR:Hid (S.rs[i]?=some r/\Row w 1 xa r.r.length xc (natC r.r)):=⟨hr,hxr⟩
    have hv:Below wr.heap.size wr (wr.alloc (.cells #[.int .i64 r.l,.slice xa r.r.length xc,.int .i64 r.lv,.int .i64 r.a] 47)):=qb _ _
    have HV:Hid (Y1 w (wr.alloc (.cells #[.int .i64 r.l,.slice xa r.r.length xc,.int .i64 r.lv,.int .i64 r.a] 47)) h S p b4 gm n i i 0 va vc vs fd fr ms wt/\(wr.alloc (.cells #[.int .i64 r.l,.slice xa r.r.length xc,.int .i64 r.lv,.int .i64 r.a] 47)).heap[wr.heap.size]?=some (.cells #[.int .i64 r.l,.slice xa r.r.length xc,.int .i64 r.lv,.int .i64 r.a] 47 (0,0))):=⟨y.below hv,heap_alloc_new _ _⟩
    clear y J hr hxr hv
    go_upto_region 7 with fail
    obtain ⟨b7,HB7⟩:∃ b7,Hid (b7=wr.heap.size):=⟨_,rfl⟩
    rw [<-HB7.out] at HV ⊢
    generalize wr.alloc (.cells #[.int .i64 r.l,.slice xa r.r.length xc,.int .i64 r.lv,.int .i64 r.a] 47)=V at HV ⊢
    clear HB7 d0 d1 d2 d3
    obtain ⟨c0,c1,c2,c3,c4,c5,c6,c7⟩:=sbox HV.out.1.ym.yb.bs
    have e0:V.cell? ⟨b7,0,none⟩=some (.int .i64 r.l):=by rw [qe HV.out.2];rfl
    rw [HRA.out,HRN.out] at c7
    by_cases hi0:i=0
    ·subst hi0
     have hl1:r.l=-1:=by
      have h1:=HWF.out.1.hd
      rw [HR.out.1] at h1
      cases h1
      rfl
     rw [hl1] at e0
     go_wp2_with fail
     refine (HON.out _).mono ?_
     rintro e V1 ⟨rfl,hB1⟩
     have HF:Hid (∃ va vc vs fd fr ms wt,Y1 w V1 h S p b4 gm n 1 1 0 va vc vs fd fr ms wt):=⟨va,vc,vs,fd,fr,ms,wt,(HV.out.1.below hB1).skip⟩
     clear hB1 c0 c1 c2 c3 c4 c5 c6 c7 e0
     go_wp2_with fail
     go_roundg (rn - (0+1))
     case measure=>omega
     case rel=>exact ⟨1,by simp,by omega,by omega,HF⟩
    ·obtain ⟨xl,hxl,hxt,hxn⟩:=HWF.out.1.rl i r (by omega) HR.out.1
     rw [<-HWF.out.2.2] at hxn
     rw [hxl] at e0
     go_wp2_with fail
     refine (HOY.out _ _ hxn hxt).mono ?_
     rintro e V1 ⟨rfl,hB1⟩
     have HV1:Hid (Y1 w V1 h S p b4 gm n i i 0 va vc vs fd fr ms wt/\V1.heap[b7]?=some (.cells #[.int .i64 r.l,.slice xa r.r.length xc,.int .i64 r.lv,.int .i64 r.a] 47 (0,0))):=⟨HV.out.1.below hB1,qf hB1 HV.out.2⟩
     clear hB1 c0 c1 c2 c3 c4 c5 c6 c7 e0 HV
     have HXL:Hid (r.l=(xl:Int)/\S.tk<xl/\xl<n/\0<i):=⟨hxl,hxt,hxn,by omega⟩
     clear hxl hxt
     have f1:V1.cell? ⟨b4,0,none⟩=some (.slice (some ⟨gm,0,none⟩) rn rn):=by
      have:=HV1.out.1.ym.bi
      rw [HV1.out.1.ml,HRN.out] at this
      rw [qe this];rfl
     have f2:V1.cell? ⟨b7,1,none⟩=some (.slice xa r.r.length xc):=by rw [qe HV1.out.2];rfl
     have him:i<ms.length:=by rw [HV1.out.1.ml,HRN.out];exact hlt
     have f3:V1.cell? ⟨gm,i,none⟩=some (.int .i64 ms[i]):=by
      rw [HV1.out.1.ym.mis.cellAt i (by omega)]
      unfold intC
      rw [List.getElem?_map,List.getElem?_eq_getElem him]
      rfl
     have f4:V1.frozen? ⟨gm,i,none⟩=false:=HV1.out.1.ym.mis.frozenAt i
     have y2:Y1 w (V1.setCell ⟨gm,i,none⟩ (.int .i64 (r.r.length:Int))) h S p b4 gm n i i 0 va vc vs fd fr (ms.set i (r.r.length:Int)) wt:=HV1.out.1.put
     have g1:(V1.setCell ⟨gm,i,none⟩ (.int .i64 (r.r.length:Int))).cell? ⟨b4,0,none⟩=some (.slice (some ⟨gm,0,none⟩) rn rn):=by
      have:=y2.ym.bi
      rw [y2.ml,HRN.out] at this
      rw [qe this];rfl
     have g2:(V1.setCell ⟨gm,i,none⟩ (.int .i64 (r.r.length:Int))).cell? ⟨gm,i,none⟩=some (.int .i64 (r.r.length:Int)):=by
      rw [y2.ym.mis.cellAt i (by rw [List.length_set];omega)]
      unfold intC
      rw [List.getElem?_map,List.getElem?_set_self him]
      rfl
     have HV2:Hid (Y1 w (V1.setCell ⟨gm,i,none⟩ (.int .i64 (r.r.length:Int))) h S p b4 gm n i i 0 va vc vs fd fr (ms.set i (r.r.length:Int)) wt/\(V1.setCell ⟨gm,i,none⟩ (.int .i64 (r.r.length:Int))).heap[b7]?=some (.cells #[.int .i64 r.l,.slice xa r.r.length xc,.int .i64 r.lv,.int .i64 r.a] 47 (0,0))/\(ms.set i (r.r.length:Int))[i]?=some (r.r.length:Int)) :=
      ⟨y2,(Below.heap_setCell _ _ _ _ (show b7≠gm from qr ⟨_,HV1.out.2⟩ (qx HV1.out.1.ym.mis rfl) (by decide))).trans HV1.out.2,List.getElem?_set_self him⟩
     generalize ms[i]=z0 at f3
     clear y2 HV1 him
     obtain ⟨rl,HRL⟩:∃ rl,Hid (r.r.length=rl):=⟨_,rfl⟩
     rw [HRL.out] at f2 g1 g2 HV2 hrl hxc
     go_upto_if 47 with fail
     generalize V1.setCell ⟨gm,i,none⟩ (.int .i64 (rl:Int))=V2 at HV2 g1 g2 ⊢
     clear f1 f2 f3 f4 g1 g2
     go_cut [27] from 27 to 73 (fun s27 wd=>s27=.int .i64 (i:Int)/\Hid ((∃ va vc vs fd fr ms wt,Y1 w wd h S p b4 gm n i (i+1) 0 va vc vs fd fr ms wt)/\wd.heap[b7]?=some (.cells #[.int .i64 r.l,.slice xa rl xc,.int .i64 r.lv,.int .i64 r.a] 47 (0,0))))
     case first =>
      by_cases hl0:rl=0
      ·subst hl0
       have m3:V2.cell? ⟨p.b3,0,none⟩=some (.pointer (some ⟨p.mb,0,none⟩)):=by rw [qe HV2.out.1.ym.yb.bm];rfl
       have m7:V2.cell? ⟨b7,0,none⟩=some (.int .i64 (xl:Int)):=by rw [qe HV2.out.2.1,HXL.out.1];rfl
       have hnil:r.r=[]:=List.eq_nil_of_length_eq_zero HRL.out
       have hdx:Der S xl:=Der.rule i r xl HXL.out.2.2.2 HR.out.1 HXL.out.1 (fun y hy=>by rw [hnil] at hy;cases hy)
       have HD:Hid (Der S xl/\r.r=[]):=⟨hdx,hnil⟩
       clear hdx hnil
       go_wp2_with fail
       refine (j7 V2 w.heap.size p.mb p.fb vc n xl va fd fr HV2.out.1.ym.yb.mrk HV2.out.1.ok HXL.out.2.2.1 hn HV2.out.1.ym.yb.bel.size).mono ?_
       rintro e V3 ⟨rfl,va3,vc3,hm3,hv3⟩
       have HF:Hid ((∃ va vc vs fd fr ms wt,Y1 w V3 h S p b4 gm n i (i+1) 0 va vc vs fd fr ms wt)/\V3.heap[b7]?=some (.cells #[.int .i64 r.l,.slice xa 0 xc,.int .i64 r.lv,.int .i64 r.a] 47 (0,0))):=by
        obtain ⟨t1,t2,t3⟩:=HV2.out.1.mark HXL.out.2.2.1 HD.out.1 hm3 hv3
        refine ⟨⟨_,_,_,_,_,_,_,t1.told HR.out.1 (by rw [HRL.out];exact HV2.out.2.2) (fun xl2 _ hl2=>?_)⟩,?_⟩
        ·have hx2:=HXL.out.1
         rw [hl2] at hx2
         have:xl2=xl:=by omega
         rw [this]
         exact t2
        ·rw [hv3.1.block b7 (Array.getElem?_eq_some_iff.1 HV2.out.2.1).1 (HV2.out.1.ym.yb.mrk.notMF ⟨_,HV2.out.2.1⟩ (by decide) (by decide) (by decide))]
         exact HV2.out.2.1
       clear hm3 hv3 m3 m7
       go_wp2_with fail
       go_meet
       exact ⟨rfl,HF⟩
      ·have hb0:((rl:Int) == 0)=false:=by
        have:(rl:Int)≠0:=by omega
        simpa using this
       have HF:Hid ((∃ va vc vs fd fr ms wt,Y1 w V2 h S p b4 gm n i (i+1) 0 va vc vs fd fr ms wt)/\V2.heap[b7]?=some (.cells #[.int .i64 r.l,.slice xa rl xc,.int .i64 r.lv,.int .i64 r.a] 47 (0,0))) :=
        ⟨⟨_,_,_,_,_,_,_,HV2.out.1.told HR.out.1 (by rw [HRL.out];exact HV2.out.2.2) (fun xl2 hnil _=>by have:=HRL.out;rw [hnil] at this;simp at this;omega)⟩,HV2.out.2.1⟩
       go_wp2_with fail
       go_meet
       exact ⟨rfl,HF⟩
     case rest =>
      obtain ⟨rfl,J2⟩:=hcut
      obtain ⟨w2,hw2⟩:∃ w2,w2=wc:=⟨_,rfl⟩
      subst wc
      have m1:w2.cell? ⟨b7,1,none⟩=some (.slice xa rl xc):=by rw [qe J2.out.2];rfl
      clear HV2
      go_wp2_with fail
      clear m1
      go_loopg [55] rl (fun kx s55 wr=>∃ k:Nat,s55=.int .i64 k/\k<=rl/\rl - k<=kx/\Hid (∃ va vc vs fd fr ms wt,Y1 w wr h S p b4 gm n i (i+1) k va vc vs fd fr ms wt))
      case atStart=>exact ⟨0,rfl,Nat.zero_le _,by omega,(J2.out.1:∃ va vc vs fd fr ms wt,Y1 w w2 h S p b4 gm n i (i+1) 0 va vc vs fd fr ms wt)⟩
      case round =>
       clear J2
       obtain ⟨k,rfl,hk,hg2,J⟩:=hrel
       by_cases hklt:k<rl
       ·have hklt':(k:Int)<(rl:Int):=by omega
        obtain ⟨va,vc,vs,fd,fr,ms,wt,y⟩:=J.out
        obtain ⟨z,hz⟩:∃ z,r.r[k]?=some z:=⟨r.r[k]'(by rw [HRL.out];exact hklt),List.getElem?_eq_getElem _⟩
        obtain ⟨b2,o2,hxa,q1⟩:=vj (HR.out.2.below y.ym.yb.bel) hz
        subst hxa
        have hzn:z<n:=by rw [HWF.out.2.2];exact (HWF.out.1.rr r (List.mem_of_getElem? HR.out.1)).2 z (List.mem_of_getElem? hz)
        obtain ⟨c0,c1,c2,c3,c4,c5,c6,c7⟩:=sbox y.ym.yb.bs
        rw [HRA.out,HRN.out] at c7
        have HY:Hid (Y1 w wr h S p b4 gm n i (i+1) k va vc vs fd fr ms wt/\(rgt S i)[k]?=some z):=⟨y,by rw [qj4 HR.out.1];exact hz⟩
        clear y hz J
        go_wp2_with fail
        refine (HSY.out _ _ hzn).mono ?_
        rintro e V4 ⟨rfl,hB4⟩
        have y4:=(HY.out.1.below hB4).below (qk V4)
        obtain ⟨qa,qm,qc,g,c,W',q2,q3,q4,hrun,d1,f1,d5,vs',wt',y5⟩:=y4.push HXL.out.2.2.2 HY.out.2 hzn (by omega)
        have q5:V4.cell? ⟨p.b5,0,none⟩=some (.slice (some ⟨p.wb,0,none⟩) n n):=by
         have:=(HY.out.1.below hB4).ym.yb.bw
         rw [y4.wl] at this
         rw [qe this];rfl
        have q2:V4.cell? ⟨p.wb,z,none⟩=some (.slice qa qm qc):=q2
        have hrun2:(Builtin.append_ #[26,26] 26 #[.slice qa qm qc,.slice (some ⟨V4.heap.size,0,none⟩) 1 1]).run Tryz.prog (V4.alloc (.cells #[.int .i64 (i:Int)] 3)).drew=.ok (.slice (some ⟨g,0,none⟩) (qm+1) c) W':=hrun
        have HF:Hid (∃ va vc vs fd fr ms wt,Y1 w (W'.setCell ⟨p.wb,z,none⟩ (.slice (some ⟨g,0,none⟩) (qm+1) c)) h S p b4 gm n i (i+1) (k+1) va vc vs fd fr ms wt):=⟨_,_,_,_,_,_,_,y5⟩
        clear y4 y5 hB4 HY hrun c0 c1 c2 c3 c4 c5 c6 c7 q1
        go_upto_region 15 with fail
        have q5':=qo q5 (.cells #[.int .i64 (i:Int)] 3)
        have q2':=qo q2 (.cells #[.int .i64 (i:Int)] 3)
        have hzn':(z:Int)<(n:Int):=by omega
        go_region_law (refine zc rfl (.tmp 67) (.tmp 69) rfl rfl (by simp [Act.eval]) (by simp [Act.eval]) hrun2 ?_)
        all_goals
         go_wp2_with fail
         go_roundg (rl - (k+1))
         case measure=>omega
         case rel=>exact ⟨k+1,by simp,by omega,Nat.le_refl _,HF⟩
       ·have hklt':¬ (k:Int)<(rl:Int):=by omega
        have HF:Hid (∃ va vc vs fd fr ms wt,Y1 w wr h S p b4 gm n (i+1) (i+1) 0 va vc vs fd fr ms wt):=by
         obtain ⟨va,vc,vs,fd,fr,ms,wt,y⟩:=J.out
         exact ⟨va,vc,vs,fd,fr,ms,wt,y.next (by rw [qj4 HR.out.1,HRL.out];omega) (by omega)⟩
        clear J
        go_wp2_with fail
        go_roundg (rn - (i+1))
        case measure=>omega
        case rel=>exact ⟨i+1,by simp,by omega,Nat.le_refl _,HF⟩
   ·have hlt':¬ (i:Int)<(rn:Int):=by omega
    have HF:Hid (∃ va vc vs fd fr ms wt,Y1 w wr h S p b4 gm n rn rn 0 va vc vs fd fr ms wt):=by
     have:i=rn:=by omega
     subst this
     exact J.out
    clear J
    go_wp2_with fail
    go_meet
    exact HF
 case rest =>
  obtain ⟨w8,hw8⟩:∃ w8,w8=wc:=⟨_,rfl⟩
  subst wc
  obtain ⟨va,vc,vs,fd,fr,ms,wt,y⟩:=hcut.out
  obtain ⟨c0,-,-,-,-,-,-,-⟩:=sbox y.ym.yb.bs
  have m3:w8.cell? ⟨p.b3,0,none⟩=some (.pointer (some ⟨p.mb,0,none⟩)):=by rw [qe y.ym.yb.bm];rfl
  have m0:w8.cell? ⟨p.mb,0,none⟩=some (.slice (some ⟨p.fb,0,none⟩) n n):=by rw [qe y.ym.yb.mrk.box,y.ok.len];rfl
  have htn:S.tk<n:=by have:=HWF.out.2.2;omega
  have htn':(S.tk:Int)<(n:Int):=by omega
  have hmn:min (S.tk:Int) (n:Int)=(S.tk:Int):=by omega
  have HY:Hid (Y1 w w8.drew h S p b4 gm n rn rn 0 va vc vs fd fr ms wt):=y.below (qk w8)
  clear y hcut H7 HC HSY HOY HON
  go_upto_region 18 with fail
  go_cut [81,82] (fun s81 s82 wd=>s81=.int .i64 (S.tk:Int)/\s82=.int .i64 0/\wd=w8.drew)
  case first =>
   go_region
   all_goals
    go_wp2_with fail
    go_meet
    exact ⟨rfl,rfl,rfl⟩
  case rest =>
   obtain ⟨rfl,rfl,hwc⟩:=hcut
   subst hwc
   clear c0 m3 m0 hmn
   go_wp2_with fail
   go_loopg [82] S.tk (fun kx s82 wr=>∃ k:Nat,s82=.int .i64 k/\k<=S.tk/\S.tk - k<=kx/\Hid (∃ va vc vs fd fr ms wt,Y1 w wr h S p b4 gm n rn rn 0 va vc vs fd fr ms wt/\∀ x,x<k->isF fd x=true))
   case atStart=>exact ⟨0,rfl,Nat.zero_le _,by omega,(⟨_,_,_,_,_,_,_,HY.out,fun x hx=>absurd hx (Nat.not_lt_zero _)⟩:∃ va vc vs fd fr ms wt,Y1 w w8.drew h S p b4 gm n rn rn 0 va vc vs fd fr ms wt/\∀ x,x<0->isF fd x=true)⟩
   case round =>
    clear HY
    obtain ⟨k,rfl,hk,hg,J⟩:=hrel
    obtain ⟨va,vc,vs,fd,fr,ms,wt,y,hx⟩:=J.out
    have m3:wr.cell? ⟨p.b3,0,none⟩=some (.pointer (some ⟨p.mb,0,none⟩)):=by rw [qe y.ym.yb.bm];rfl
    have HY2:Hid (Y1 w wr h S p b4 gm n rn rn 0 va vc vs fd fr ms wt/\∀ x,x<k->isF fd x=true):=⟨y,hx⟩
    clear y hx J
    by_cases hlt:k<S.tk
    ·have hlt':(k:Int)<(S.tk:Int):=by omega
     go_wp2_with fail
     refine (j7 wr w.heap.size p.mb p.fb vc n k va fd fr HY2.out.1.ym.yb.mrk HY2.out.1.ok (by omega) hn HY2.out.1.ym.yb.bel.size).mono ?_
     rintro e V3 ⟨rfl,va3,vc3,hm3,hv3⟩
     have HF:Hid (∃ va vc vs fd fr ms wt,Y1 w V3 h S p b4 gm n rn rn 0 va vc vs fd fr ms wt/\∀ x,x<k+1->isF fd x=true):=by
      obtain ⟨t1,t2,t3⟩:=HY2.out.1.mark (x:=k) (by omega) (Der.tok k hlt) hm3 hv3
      refine ⟨_,_,_,_,_,_,_,t1,fun x hx=>?_⟩
      rcases Nat.lt_or_ge x k with h1 | h1
      ·exact t3 x (HY2.out.2 x h1)
      ·have:x=k:=by omega
       subst this
       exact t2
     clear hm3 hv3 m3
     go_wp2_with fail
     go_roundg (S.tk - (k+1))
     case measure=>omega
     case rel=>exact ⟨k+1,by simp,by omega,Nat.le_refl _,HF⟩
    ·have hlt':¬ (k:Int)<(S.tk:Int):=by omega
     have HI:Hid (IY w h S p b4 gm n vs wt wr va vc fd fr):=by
      have y1:=HY2.out.1
      rw [<-HRN.out] at y1
      exact qpq y1 (fun x hx=>HY2.out.2 x (by omega))
     have HW:Hid (wt.length=n/\Wts S S.rs.length wt/\∀ (x:Nat) (l:List Nat),wt[x]?=some l->l.length<=100000):=by
      have y1:=HY2.out.1
      rw [<-HRN.out] at y1
      exact ⟨y1.wl,qpp y1.wts,fun x l hl=>by have:=y1.rows x l hl;rw [HRN.out] at this;omega⟩
     clear HY2
     go_wp2_with fail
     refine (qb5 78 #[.pointer (some ⟨p.b5,0,none⟩),.pointer (some ⟨b4,0,none⟩),.pointer (some ⟨p.b3,0,none⟩),.pointer (some ⟨p.b1,0,none⟩)] qq5 w.heap.size p.mb n hn (IY w h S p b4 gm n vs wt) qq6 (qq7 HWF.out.1 HWF.out.2.1 HWF.out.2.2 HW.out.1 HW.out.2.1 HW.out.2.2) wr va vc fd fr HI.out).mono ?_
     rintro e V5 ⟨rfl,va5,vc5,fd5,ms5,y5,mk5,-,hM5,hZ5,hD5,hT5⟩
     have m3':V5.cell? ⟨p.b3,0,none⟩=some (.pointer (some ⟨p.mb,0,none⟩)):=by rw [qe y5.yb.bm];rfl
     have m0':V5.cell? ⟨p.mb,0,none⟩=some (.slice (some ⟨p.fb,0,none⟩) n n):=by rw [qe y5.yb.mrk.box,mk5.len];rfl
     have HF:Hid (fd5.length=n/\V5.ownsRow w.heap.size 4 1 (.slice (some ⟨p.fb,0,none⟩) n n) n (booC fd5)/\ko (Der S) fd5/\Below w.heap.size w V5):=by
      have h1:=y5.yb.mrk.fnd
      rw [mk5.len] at h1
      exact ⟨mk5.len,h1,qml hM5 hZ5 hD5 hT5,y5.yb.bel⟩
     clear y5 mk5 hM5 hZ5 hD5 hT5 m3
     go_wp2_with fail
     go_ret
     exact ⟨p.fb,fd5,rfl,HF.out⟩
structure R1 (w W:World) (h:SHd) (S:Sp) (p:YP) (n i:Nat) (va:Option Addr) (vc:Nat) (vs:List (Option Addr × Nat)) (wt:List (List Nat)):Prop where
 yb:YB w W h S p va vc vs (List.replicate n false) [] wt
 wl:wt.length=n
 rls:Rls S i wt
 rows:∀ (x:Nat) (l:List Nat),wt[x]?=some l->l.length<=i
theorem R1.below {w W W':World} {h:SHd} {S:Sp} {p:YP} {n i:Nat} {va:Option Addr} {vc:Nat} {vs:List (Option Addr × Nat)} {wt:List (List Nat)} (y:R1 w W h S p n i va vc vs wt) (hb:Below W.heap.size W W'):R1 w W' h S p n i va vc vs wt :=
 ⟨y.yb.below hb,y.wl,y.rls,y.rows⟩
theorem qpr (S:Sp) (n:Nat):Rls S 0 (List.replicate n []):=by
 intro x l hl j
 have h2:=List.mem_of_getElem? hl
 rw [List.mem_replicate] at h2
 rw [h2.2]
 constructor
 ·intro h;cases h
 ·rintro ⟨-,h,-⟩;omega
theorem R1.skip {w W:World} {h:SHd} {S:Sp} {p:YP} {n:Nat} {va:Option Addr} {vc:Nat} {vs:List (Option Addr × Nat)} {wt:List (List Nat)} (y:R1 w W h S p n 0 va vc vs wt):R1 w W h S p n 1 va vc vs wt :=
 ⟨y.yb,y.wl,fun x l hl j=>(y.rls x l hl j).trans ⟨fun h=>by omega,fun h=>by omega⟩,fun x l hl=>Nat.le_succ_of_le (y.rows x l hl)⟩
theorem qps {S:Sp} {i x:Nat} {wt:List (List Nat)} {l:List Nat} {r:SR} (h:Rls S i wt) (hi:0<i) (hr:S.rs[i]?=some r) (hx:r.l=(x:Int)) (hl:wt[x]?=some l):Rls S (i+1) (wt.set x (l++[i])):=by
 intro y m hm j
 rw [List.getElem?_set] at hm
 have hxl:x<wt.length:=(List.getElem?_eq_some_iff.1 hl).1
 by_cases hy:x=y
 ·subst hy
  rw [if_pos rfl,if_pos hxl] at hm
  cases hm
  rw [List.mem_append,List.mem_singleton,h x l hl j]
  constructor
  ·rintro (⟨h1,h2,h3⟩ | rfl)
   ·exact ⟨h1,by omega,h3⟩
   ·exact ⟨hi,by omega,r,hr,hx⟩
  ·rintro ⟨h1,h2,h3⟩
   rcases Nat.lt_or_ge j i with h4 | h4
   ·exact .inl ⟨h1,h4,h3⟩
   ·exact .inr (by omega)
 ·rw [if_neg hy] at hm
  rw [h y m hm j]
  constructor
  ·rintro ⟨h1,h2,h3⟩
   exact ⟨h1,by omega,h3⟩
  ·rintro ⟨h1,h2,q,h3,h4⟩
   rcases Nat.lt_or_ge j i with h5 | h5
   ·exact ⟨h1,h5,q,h3,h4⟩
   ·have:j=i:=by omega
    subst this
    rw [hr] at h3
    cases h3
    rw [hx] at h4
    omega
theorem R1.push {w W:World} {h:SHd} {S:Sp} {p:YP} {n i x:Nat} {va:Option Addr} {vc:Nat} {vs:List (Option Addr × Nat)} {wt:List (List Nat)} {r:SR} (y:R1 w W h S p n i va vc vs wt) (hi:0<i) (hr:S.rs[i]?=some r) (hx:r.l=(x:Int)) (hxn:x<n) (hb:i<10000) :
  ∃ qa qm qc g c W',W.cell? ⟨p.wb,x,none⟩=some (.slice qa qm qc)/\qm<=qc/\qc<=9223372036854775807/\(Builtin.append_ #[26,26] 26 #[.slice qa qm qc,.slice (some ⟨W.heap.size,0,none⟩) 1 1]).run Tryz.prog (W.alloc (.cells #[.int .i64 (i:Int)] 3))=.ok (.slice (some ⟨g,0,none⟩) (qm+1) c) W' /\
   W'.cell? ⟨p.wb,x,none⟩=some (.slice qa qm qc)/\W'.frozen? ⟨p.wb,x,none⟩=false/\W'.cell? ⟨p.b5,0,none⟩=some (.slice (some ⟨p.wb,0,none⟩) n n)/\Kept (fun k=>Loc W k 26\/Loc W k 3) W W' /\
   ∃ vs' wt',R1 w (W'.setCell ⟨p.wb,x,none⟩ (.slice (some ⟨g,0,none⟩) (qm+1) c)) h S p n (i+1) va vc vs' wt':=by
 obtain ⟨l,hl⟩:∃ l,wt[x]?=some l:=⟨wt[x]'(by rw [y.wl];exact hxn),List.getElem?_eq_getElem _⟩
 obtain ⟨q,hq,c1,-⟩:=y.yb.grd.at hl
 have hlen:=y.rows x l hl
 obtain ⟨g,c,W',hrun,-,-,k0,-,-,-⟩:=y.yb.grd.add (i:=i) y.yb.bel.size hl hq (by omega)
 obtain ⟨g2,c2,W2,hrun2,d1,f1,d5,yb,hK,hg⟩:=y.yb.push (i:=i) hl hq (by omega)
 rw [hrun] at hrun2
 injection hrun2 with e1 e2
 cases e1
 subst e2
 have hle:=z8 (y.yb.grd.row x q l hq hl)
 rw [y.wl] at d5
 refine ⟨q.1,l.length,q.2,g,c,W',c1,hle.1,hle.2,hrun,d1,f1,d5,k0.weaken (fun k e=>.inr (y.yb.grd.lt ⟨x,q,hq,e⟩).2.2),_,_,yb,by rw [List.length_set];exact y.wl,qps y.rls hi hr hx hl,fun z m hm=>?_⟩
 rw [List.getElem?_set] at hm
 split at hm
 ·split at hm
  ·cases hm
   rw [List.length_append]
   simp
   omega
  ·cases hm
 ·have:=y.rows z m hm
  omega
def IR (w:World) (h:SHd) (S:Sp) (p:YP) (n:Nat) (vs:List (Option Addr × Nat)) (wt:List (List Nat)) (W:World) (va:Option Addr) (vc:Nat) (fd:List Bool) (fr:List Nat):Prop :=
 YB w W h S p va vc vs fd fr wt/\MK n fd fr/\Clo S (prc fd fr) fd/\qd7 S fd/\isF fd S.st=true
theorem qq8 {w:World} {h:SHd} {S:Sp} {p:YP} {n:Nat} {vs:List (Option Addr × Nat)} {wt:List (List Nat)}:∀ W va vc fd fr,IR w h S p n vs wt W va vc fd fr->MK n fd fr/\∃ fb,Mrk W w.heap.size p.mb fb va vc fd fr:=by
 rintro W va vc fd fr ⟨y,hm,-⟩
 exact ⟨hm,p.fb,y.mrk⟩
theorem qq9 {w:World} {h:SHd} {S:Sp} {p:YP} {n:Nat} {vs:List (Option Addr × Nat)} {wt:List (List Nat)} (hwf:WF S) (hsp:IsSp w h S) (hnn:n=S.tk+1+S.nt) (hwl:wt.length=n) (hw:Rls S S.rs.length wt) (hrows:∀ (x:Nat) (l:List Nat),wt[x]?=some l->l.length<=100000) :
  ∀ W va vc fd fr x,IR w h S p n vs wt W va vc fd (fr++[x])->Calls Tryz.prog 70 (#[.int .i64 (x:Int)]++#[.pointer (some ⟨p.b5,0,none⟩),.pointer (some ⟨p.b1,0,none⟩),.pointer (some ⟨p.b3,0,none⟩)]) (popW W p.mb va fr.length vc) fun e W'=>e=.returned (.tuple #[])/\∃ va' vc' fd' fr',IR w h S p n vs wt W' va' vc' fd' fr'/\lft n fd' fr'<lft n fd (fr++[x]):=by
 rintro W va vc fd fr x ⟨y,hm,hC,hD,hT⟩
 obtain ⟨m1,m2,m3,m4⟩:=hm.pop
 obtain ⟨l,hl⟩:∃ l,wt[x]?=some l:=⟨wt[x]'(by rw [hwl];exact m4),List.getElem?_eq_getElem _⟩
 have y1:LR w (popW W p.mb va fr.length vc) h S p vs wt n fd fr l 0:=⟨va,vc,fd,fr,y.pop,Adds.refl m1,hD,fun j i r y hj=>absurd hj (Nat.not_lt_zero _)⟩
 refine (qlb w _ h S p vs wt n x fd fr l y1 hwf hsp hnn hl (fun i hi=>?_) (hD x m3) (hrows x l hl)).mono ?_
 ·obtain ⟨h1,-,h3⟩:=(hw x l hl i).1 hi
  exact ⟨h1,h3⟩
 rintro e W' ⟨rfl,va',vc',fd',fr',y',A,D',L'⟩
 refine ⟨rfl,va',vc',fd',fr',⟨y',A.ok,?_,D',A.up _ hT⟩,?_⟩
 ·rw [A.pr]
  intro i r z u h0 hr hz hp hu
  rw [qg5 m3 m2 z] at hp
  by_cases hzx:z=x
  ·subst hzx
   have hil:i∈l:=(hw z l hl i).2 ⟨h0,(List.getElem?_eq_some_iff.1 hr).1,r,hr,hz⟩
   obtain ⟨j,hj⟩:=List.getElem?_of_mem hil
   exact L' j i r u (List.getElem?_eq_some_iff.1 hj).1 hj hr hu
  ·rw [if_neg hzx] at hp
   exact A.up u (hC i r z u h0 hr hz hp hu)
 ·rw [qff A]
  exact qg6 m4 m3 m2
theorem qiz (w:World) (h:SHd) (S:Sp) (n:Nat) (hnn:n=S.tk+1+S.nt) (hwf:WF S) (hsp:IsSp w h S) :
  Calls Tryz.prog 43 #[sv h S] w fun e w'=>BRes w w' n (Rch S) e:=by
 have hz:Szs S n:=by rw [hnn];exact hwf.szs
 have hn:n<=1000:=by have:=hwf.tk;have:=hwf.nt;omega
 have hrn:S.rs.length<=300:=hwf.nr
 have HC:Hid (∀ V:World,Calls Tryz.prog 65 #[.agg (sC h S)] V fun e w'=>e=.returned (.int .i64 (n:Int))/\Below V.heap.size V w'):=fun V=>qa0 h S V n hz
 have HSY:Hid (∀ (V:World) (z:Nat),z<n->Calls Tryz.prog 67 #[.agg (sC h S),.int .i64 (z:Int)] V fun e w'=>e=.returned (.bool true)/\Below V.heap.size V w'):=fun V z hx=>qaa h S V n z hz hx
 have HOY:Hid (∀ (V:World) (z:Nat),z<n->S.tk<z->Calls Tryz.prog 66 #[.agg (sC h S),.int .i64 (z:Int)] V fun e w'=>e=.returned (.bool true)/\Below V.heap.size V w'):=fun V z hx ht=>qed h S V n z hz hx ht
 have HON:Hid (∀ (V:World),Calls Tryz.prog 66 #[.agg (sC h S),.int .i64 (-1)] V fun e w'=>e=.returned (.bool false)/\Below V.heap.size V w'):=fun V=>qe3 h S V
 have HWF:Hid (WF S/\IsSp w h S/\n=S.tk+1+S.nt):=⟨hwf,hsp,hnn⟩
 have hB0:Below w.heap.size w (w.alloc (.cells (sC h S) 31)):=qb _ _
 have hs0:(w.alloc (.cells (sC h S) 31)).heap[w.heap.size]?=some (.cells (sC h S) 31 (0,0)):=heap_alloc_new _ _
 obtain ⟨rb,ro,-,-,hra,-⟩:=hsp.rl.at hwf.hd
 have HRA:Hid (h.ra=some ⟨rb,ro,none⟩):=hra
 clear hwf hsp hnn hz
 unfold sv sC
 unfold sC at HC HSY HOY HON
 rw [hra] at HC HSY HOY HON ⊢
 clear hra
 obtain ⟨rn,HRN⟩:∃ rn,Hid (S.rs.length=rn):=⟨_,rfl⟩
 rw [HRN.out] at HC HSY HOY HON hrn ⊢
 go_enter Tryz.func43,Tryz.ntmps43
 go_upto_region 1 with fail
 have e0:w.alloc (.cells #[.int .i64 (S.tk:Int),.int .i64 (S.nt:Int),.int .i64 (S.st:Int),.int .i64 S.ex,.slice h.na S.nm.length h.nc,.slice h.la S.lv.length h.lc,.slice h.aa S.az.length h.ac,.slice (some ⟨rb,ro,none⟩) rn h.rc] 31)=w.alloc (.cells (sC h S) 31):=by unfold sC;rw [HRA.out,HRN.out]
 rw [e0]
 generalize w.alloc (.cells (sC h S) 31)=W0 at hB0 hs0 ⊢
 obtain ⟨b1,HB1⟩:∃ b1,Hid (b1=w.heap.size):=⟨_,rfl⟩
 rw [<-HB1.out] at hs0 ⊢
 obtain ⟨c0,c1,c2,c3,c4,c5,c6,c7⟩:=sbox hs0
 rw [HRA.out,HRN.out] at c7
 have HB0:Hid (Below w.heap.size w W0/\W0.heap[b1]?=some (.cells (sC h S) 31 (0,0))):=⟨hB0,hs0⟩
 clear e0 hB0 hs0
 go_wp2_with fail
 refine (HC.out _).mono ?_
 rintro e W1 ⟨rfl,hB1⟩
 have HB2:Hid (Below w.heap.size w W1/\W1.heap[b1]?=some (.cells (sC h S) 31 (0,0))):=⟨qd HB0.out.1 hB1,qf hB1 HB0.out.2⟩
 clear hB1 HB0
 go_wp2_with fail
 refine (qat W1 n hn).mono ?_
 rintro e W2 ⟨mb,fb,rfl,hM,hB2⟩
 clear c0 c1 c2 c3 c4 c5 c6 c7
 have h3:Below W2.heap.size W2 (W2.alloc (.cells #[.pointer (some ⟨mb,0,none⟩)] 94)):=qb _ _
 have HA:Hid (Below w.heap.size w (W2.alloc (.cells #[.pointer (some ⟨mb,0,none⟩)] 94))/\(W2.alloc (.cells #[.pointer (some ⟨mb,0,none⟩)] 94)).heap[b1]?=some (.cells (sC h S) 31 (0,0))/\(W2.alloc (.cells #[.pointer (some ⟨mb,0,none⟩)] 94)).heap[W2.heap.size]?=some (.cells #[.pointer (some ⟨mb,0,none⟩)] 94 (0,0))/\Mrk (W2.alloc (.cells #[.pointer (some ⟨mb,0,none⟩)] 94)) w.heap.size mb fb none 0 (List.replicate n false) []) :=
  ⟨qd (qd HB2.out.1 hB2) h3,qf h3 (qf hB2 HB2.out.2),heap_alloc_new _ _,(hM.mono HB2.out.1.size).keep (fun k hk=>h3.block k (hM.loc hk).2.1)⟩
 clear hM hB2 HB2 h3
 go_upto_region 2 with fail
 obtain ⟨b3,HB3⟩:∃ b3,Hid (b3=W2.heap.size):=⟨_,rfl⟩
 rw [<-HB3.out] at HA ⊢
 generalize W2.alloc (.cells #[.pointer (some ⟨mb,0,none⟩)] 94)=W5 at HA ⊢
 clear HB3
 have hrc:=j6 HWF.out.2.1.rl
 rw [HRN.out] at hrc
 obtain ⟨W6,hr6,hG6,hB6⟩:=qcj W5 w.heap.size n hn HA.out.1.size
 have d3:W5.cell? ⟨b3,0,none⟩=some (.pointer (some ⟨mb,0,none⟩)):=by rw [qe HA.out.2.2.1];rfl
 have dm:W5.cell? ⟨mb,0,none⟩=some (.slice (some ⟨fb,0,none⟩) n n):=by rw [qe HA.out.2.2.2.box,List.length_replicate];rfl
 have h7:Below W6.heap.size W6 (W6.alloc (.cells #[.slice (some ⟨W5.heap.size,0,none⟩) n n] 38)):=qb _ _
 have H7:Hid (R1 w (W6.alloc (.cells #[.slice (some ⟨W5.heap.size,0,none⟩) n n] 38)) h S ⟨b1,b3,W6.heap.size,mb,fb,W5.heap.size⟩ n 0 none 0 (List.replicate n (none,0)) (List.replicate n [])):=by
  obtain ⟨q1,q2,q3,q4⟩:=HA.out
  have hb:Below W5.heap.size W5 (W6.alloc (.cells #[.slice (some ⟨W5.heap.size,0,none⟩) n n] 38)):=qd hB6 h7
  refine ⟨⟨qd q1 hb,qf hb q2,qf hb q3,?_,q4.keep (fun k hk=>hb.block k (q4.loc hk).2.1),hG6.below h7,fun k hk=>(qgl hk).elim⟩,by simp,qpr S n,fun x l hl=>?_⟩
  ·simp only [List.length_replicate]
   exact heap_alloc_new _ _
  ·have:=List.mem_of_getElem? hl
   rw [List.mem_replicate] at this
   rw [this.2]
   simp
 clear hG6 hB6 h7 HA
 go_upto_region 3 with fail
 clear hr6 d3 dm
 generalize W6.alloc (.cells #[.slice (some ⟨W5.heap.size,0,none⟩) n n] 38)=W7 at H7 ⊢
 generalize W6.heap.size=b5 at H7 ⊢
 generalize W5.heap.size=wb at H7 ⊢
 obtain ⟨p,HP⟩:∃ p:YP,Hid (p=⟨b1,b3,b5,mb,fb,wb⟩):=⟨_,rfl⟩
 have p1:b1=p.b1:=by rw [HP.out]
 have p3:b3=p.b3:=by rw [HP.out]
 have p5:b5=p.b5:=by rw [HP.out]
 have pm:mb=p.mb:=by rw [HP.out]
 have pf:fb=p.fb:=by rw [HP.out]
 have pw:wb=p.wb:=by rw [HP.out]
 rw [<-HP.out] at H7
 clear HP HB1
 subst p1 p3 p5 pm pf pw
 obtain ⟨-,-,-,-,-,-,-,c7⟩:=sbox H7.out.yb.bs
 rw [HRA.out,HRN.out] at c7
 go_upto_block 0 with fail
 clear c7
 go_cut [19] (fun s19 wd=>Hid (∃ va vc vs wt,R1 w wd h S p n rn va vc vs wt))
 case first =>
  go_wp2_with fail
  go_loopg [19] rn (fun kx s19 wr=>∃ i:Nat,s19=.int .i64 i/\i<=rn/\rn - i<=kx/\Hid (∃ va vc vs wt,R1 w wr h S p n i va vc vs wt))
  case atStart=>exact ⟨0,rfl,Nat.zero_le _,by omega,(⟨_,_,_,_,H7.out⟩:∃ va vc vs wt,R1 w W7 h S p n 0 va vc vs wt)⟩
  case round =>
   clear H7
   obtain ⟨i,rfl,hi,hg,J⟩:=hrel
   by_cases hlt:i<rn
   ·have hlt':(i:Int)<(rn:Int):=by omega
    obtain ⟨va,vc,vs,wt,y⟩:=J.out
    obtain ⟨r,hr⟩:∃ r,S.rs[i]?=some r:=⟨S.rs[i]'(by rw [HRN.out];exact hlt),List.getElem?_eq_getElem _⟩
    obtain ⟨rb2,ro2,xa,xc,hra,d0,d1,d2,d3,hxr⟩:=HWF.out.2.1.rl.at hr
    rw [HRA.out] at hra
    cases hra
    have d0:=qj y.yb.bel d0
    have d1:=qj y.yb.bel d1
    have d2:=qj y.yb.bel d2
    have d3:=qj y.yb.bel d3
    have HR:Hid (S.rs[i]?=some r):=hr
    have hv:Below wr.heap.size wr (wr.alloc (.cells #[.int .i64 r.l,.slice xa r.r.length xc,.int .i64 r.lv,.int .i64 r.a] 47)):=qb _ _
    have HV:Hid (R1 w (wr.alloc (.cells #[.int .i64 r.l,.slice xa r.r.length xc,.int .i64 r.lv,.int .i64 r.a] 47)) h S p n i va vc vs wt/\(wr.alloc (.cells #[.int .i64 r.l,.slice xa r.r.length xc,.int .i64 r.lv,.int .i64 r.a] 47)).heap[wr.heap.size]?=some (.cells #[.int .i64 r.l,.slice xa r.r.length xc,.int .i64 r.lv,.int .i64 r.a] 47 (0,0))):=⟨y.below hv,heap_alloc_new _ _⟩
    clear y J hr hxr hv
    go_upto_region 6 with fail
    obtain ⟨b7,HB7⟩:∃ b7,Hid (b7=wr.heap.size):=⟨_,rfl⟩
    rw [<-HB7.out] at HV ⊢
    generalize wr.alloc (.cells #[.int .i64 r.l,.slice xa r.r.length xc,.int .i64 r.lv,.int .i64 r.a] 47)=V at HV ⊢
    clear HB7 d0 d1 d2 d3
    obtain ⟨c0,c1,c2,c3,c4,c5,c6,c7⟩:=sbox HV.out.1.yb.bs
    have e0:V.cell? ⟨b7,0,none⟩=some (.int .i64 r.l):=by rw [qe HV.out.2];rfl
    rw [HRA.out,HRN.out] at c7
    by_cases hi0:i=0
    ·subst hi0
     have hl1:r.l=-1:=by
      have h1:=HWF.out.1.hd
      rw [HR.out] at h1
      cases h1
      rfl
     rw [hl1] at e0
     go_wp2_with fail
     refine (HON.out _).mono ?_
     rintro e V1 ⟨rfl,hB1⟩
     have HF:Hid (∃ va vc vs wt,R1 w V1 h S p n 1 va vc vs wt):=⟨va,vc,vs,wt,(HV.out.1.below hB1).skip⟩
     clear hB1 c0 c1 c2 c3 c4 c5 c6 c7 e0
     go_wp2_with fail
     go_roundg (rn - (0+1))
     case measure=>omega
     case rel=>exact ⟨1,by simp,by omega,by omega,HF⟩
    ·obtain ⟨xl,hxl,hxt,hxn⟩:=HWF.out.1.rl i r (by omega) HR.out
     rw [<-HWF.out.2.2] at hxn
     rw [hxl] at e0
     go_wp2_with fail
     refine (HOY.out _ _ hxn hxt).mono ?_
     rintro e V4 ⟨rfl,hB4⟩
     have hb7:=qf hB4 HV.out.2
     have y4:=(HV.out.1.below hB4).below (qk V4)
     obtain ⟨qa,qm,qc,g,c,W',q2,q3,q4,hrun,d1,f1,d5,hK,vs',wt',y5⟩:=y4.push (by omega) HR.out hxl hxn (by omega)
     have q5:V4.cell? ⟨p.b5,0,none⟩=some (.slice (some ⟨p.wb,0,none⟩) n n):=by
      have:=(HV.out.1.below hB4).yb.bw
      rw [y4.wl] at this
      rw [qe this];rfl
     have q7:V4.cell? ⟨b7,0,none⟩=some (.int .i64 (xl:Int)):=by rw [qe hb7,hxl];rfl
     have hb7':W'.heap[b7]?=some (.cells #[.int .i64 r.l,.slice xa r.r.length xc,.int .i64 r.lv,.int .i64 r.a] 47 (0,0)):=by
      rw [hK.block b7 (Array.getElem?_eq_some_iff.1 hb7).1 (fun e=>?_)]
      ·exact hb7
      ·rcases e with e | e
       ·exact qr ⟨_,hb7⟩ e (by decide) rfl
       ·exact qr ⟨_,hb7⟩ e (by decide) rfl
     have n5:p.b5≠p.wb:=qr ⟨_,(HV.out.1.below hB4).yb.bw⟩ (HV.out.1.below hB4).yb.grd.loc.2.2 (by decide)
     have n7:b7≠p.wb:=qr ⟨_,hb7⟩ (HV.out.1.below hB4).yb.grd.loc.2.2 (by decide)
     have d7:W'.cell? ⟨b7,0,none⟩=some (.int .i64 (xl:Int)):=by rw [qe hb7',hxl];rfl
     have q2:V4.cell? ⟨p.wb,xl,none⟩=some (.slice qa qm qc):=q2
     have hrun2:(Builtin.append_ #[26,26] 26 #[.slice qa qm qc,.slice (some ⟨V4.heap.size,0,none⟩) 1 1]).run Tryz.prog (V4.alloc (.cells #[.int .i64 (i:Int)] 3)).drew=.ok (.slice (some ⟨g,0,none⟩) (qm+1) c) W':=hrun
     have HF:Hid (∃ va vc vs wt,R1 w (W'.setCell ⟨p.wb,xl,none⟩ (.slice (some ⟨g,0,none⟩) (qm+1) c)) h S p n (i+1) va vc vs wt):=⟨_,_,_,_,y5⟩
     clear y4 y5 hB4 HV hrun c0 c1 c2 c3 c4 c5 c6 c7 e0 hb7 hb7' hK hxl
     go_upto_region 7 with fail
     have q5':=qo q5 (.cells #[.int .i64 (i:Int)] 3)
     have q2':=qo q2 (.cells #[.int .i64 (i:Int)] 3)
     have q7':=qo q7 (.cells #[.int .i64 (i:Int)] 3)
     have hzn':(xl:Int)<(n:Int):=by omega
     have s5:(W'.setCell ⟨p.wb,xl,none⟩ (.slice (some ⟨g,0,none⟩) (qm+1) c)).cell? ⟨p.b5,0,none⟩=some (.slice (some ⟨p.wb,0,none⟩) n n):=qz d5 n5
     have s7:(W'.setCell ⟨p.wb,xl,none⟩ (.slice (some ⟨g,0,none⟩) (qm+1) c)).cell? ⟨b7,0,none⟩=some (.int .i64 (xl:Int)):=qz d7 n7
     refine wp_region_held_drew (S:=fun w'=>w'.cell? ⟨p.b5,0,none⟩=some (.slice (some ⟨p.wb,0,none⟩) n n)/\w'.cell? ⟨b7,0,none⟩=some (.int .i64 (xl:Int))) (by kernel_rfl) ⟨q5,q7⟩ (fun hHeld=>?_)
     refine wpAnyH_take (i:=0) (v:=.slice (some ⟨p.wb,0,none⟩) n n) rfl (by kernel_rfl) (by kernel_rfl) (by kernel_rfl) (fun _ _ _ h=>h) (Or.inl ⟨by rfl,fun w9 hSw=>?_⟩) hHeld ?_
     ·obtain ⟨hs1,hs2⟩:=hSw
      go_simp
     simp only [Act.put]
     refine wpAnyH_take (i:=1) (v:=.pointer (some ⟨b7,0,none⟩)) rfl (by kernel_rfl) (by kernel_rfl) (by kernel_rfl) (fun _ _ _ h=>h) (Or.inl ⟨by rfl,fun w9 hSw=>?_⟩) hHeld ?_
     ·obtain ⟨hs1,hs2⟩:=hSw
      go_simp
     simp only [Act.put]
     refine wpAnyH_take (i:=2) (v:=.int .i64 (xl:Int)) rfl (by kernel_rfl) (by kernel_rfl) (by kernel_rfl) (fun _ _ _ h=>h) (Or.inl ⟨by rfl,fun w9 hSw=>?_⟩) hHeld ?_
     ·obtain ⟨hs1,hs2⟩:=hSw
      go_simp
     simp only [Act.put]
     refine wpAnyH_take (i:=3) (v:=.slice (some ⟨p.wb,0,none⟩) n n) rfl (by kernel_rfl) (by kernel_rfl) (by kernel_rfl) (fun _ _ _ h=>h) (Or.inl ⟨by rfl,fun w9 hSw=>?_⟩) hHeld ?_
     ·obtain ⟨hs1,hs2⟩:=hSw
      go_simp
     simp only [Act.put]
     refine wpAnyH_take (i:=4) (v:=.pointer (some ⟨b7,0,none⟩)) rfl (by kernel_rfl) (by kernel_rfl) (by kernel_rfl) (fun _ _ _ h=>h) (Or.inl ⟨by rfl,fun w9 hSw=>?_⟩) hHeld ?_
     ·obtain ⟨hs1,hs2⟩:=hSw
      go_simp
     simp only [Act.put]
     refine wpAnyH_take (i:=5) (v:=.int .i64 (xl:Int)) rfl (by kernel_rfl) (by kernel_rfl) (by kernel_rfl) (fun _ _ _ h=>h) (Or.inl ⟨by rfl,fun w9 hSw=>?_⟩) hHeld ?_
     ·obtain ⟨hs1,hs2⟩:=hSw
      go_simp
     simp only [Act.put]
     refine wpAnyH_take (i:=6) (v:=.pointer (some ⟨p.wb,xl,none⟩)) rfl (by kernel_rfl) (by kernel_rfl) (by kernel_rfl) (fun _ _ _ h=>h) (Or.inl ⟨by rfl,fun w9 hSw=>?_⟩) hHeld ?_
     ·obtain ⟨hs1,hs2⟩:=hSw
      go_simp
     simp only [Act.put]
     refine wpAnyH_take (i:=8) (v:=.int .i64 (i:Int)) rfl (by kernel_rfl) (by kernel_rfl) (by kernel_rfl) (fun _ _ _ h=>h) (Or.inl ⟨by rfl,fun w9 hSw=>?_⟩) hHeld ?_
     ·obtain ⟨hs1,hs2⟩:=hSw
      go_simp
     simp only [Act.put]
     refine wpAnyH_ready (rs:=[7,9]) (by kernel_rfl) (by simp) ?_
     refine AllReadyH.cons rfl (fun K hK=>?_) (AllReadyH.cons rfl (fun K hK=>?_) AllReadyH.nil)
     ·go_simp
      refine hK.out _ _ ⟨q5,q7⟩ (fun hHeld=>?_)
      clear hK K
      refine wpAnyH_ready (rs:=[9]) (by kernel_rfl) (by simp) ?_
      refine AllReadyH.cons rfl (fun K hK=>?_) AllReadyH.nil
      go_simp
      refine hK.out _ _ ⟨q5',q7'⟩ (fun hHeld=>?_)
      clear hK K
      refine wpAnyH_ready (rs:=[10]) (by kernel_rfl) (by simp) ?_
      refine AllReadyH.cons rfl (fun K hK=>?_) AllReadyH.nil
      refine zc rfl (.tmp 35) (.tmp 37) rfl rfl (by simp [Act.eval]) (by simp [Act.eval]) hrun2 (hK.out _ _ ⟨d5,d7⟩ (fun hHeld=>?_))
      simp only [Act.put]
      clear hK K
      refine wpAnyH_take (i:=11) (v:=.pointer (some ⟨p.wb,xl,none⟩)) rfl (by kernel_rfl) (by kernel_rfl) (by kernel_rfl) (fun _ _ _ h=>h) (Or.inl ⟨by rfl,fun w9 hSw=>?_⟩) hHeld ?_
      ·obtain ⟨hs1,hs2⟩:=hSw
       go_simp
      simp only [Act.put]
      refine wpAnyH_ready (rs:=[12]) (by kernel_rfl) (by simp) ?_
      refine AllReadyH.cons rfl (fun K hK=>?_) AllReadyH.nil
      go_simp
      refine hK.out _ _ ⟨s5,s7⟩ (fun hHeld=>?_)
      clear hK K
      refine wpAnyH_done (by kernel_rfl) ?_ _
      go_wp2_with fail
      go_roundg (rn - (i+1))
      case measure=>omega
      case rel=>exact ⟨i+1,by simp,by omega,Nat.le_refl _,HF⟩
     ·go_simp
      refine hK.out _ _ ⟨q5',q7'⟩ (fun hHeld=>?_)
      clear hK K
      refine wpAnyH_ready (rs:=[7]) (by kernel_rfl) (by simp) ?_
      refine AllReadyH.cons rfl (fun K hK=>?_) AllReadyH.nil
      go_simp
      refine hK.out _ _ ⟨q5',q7'⟩ (fun hHeld=>?_)
      clear hK K
      refine wpAnyH_ready (rs:=[10]) (by kernel_rfl) (by simp) ?_
      refine AllReadyH.cons rfl (fun K hK=>?_) AllReadyH.nil
      refine zc rfl (.tmp 35) (.tmp 37) rfl rfl (by simp [Act.eval]) (by simp [Act.eval]) hrun2 (hK.out _ _ ⟨d5,d7⟩ (fun hHeld=>?_))
      simp only [Act.put]
      clear hK K
      refine wpAnyH_take (i:=11) (v:=.pointer (some ⟨p.wb,xl,none⟩)) rfl (by kernel_rfl) (by kernel_rfl) (by kernel_rfl) (fun _ _ _ h=>h) (Or.inl ⟨by rfl,fun w9 hSw=>?_⟩) hHeld ?_
      ·obtain ⟨hs1,hs2⟩:=hSw
       go_simp
      simp only [Act.put]
      refine wpAnyH_ready (rs:=[12]) (by kernel_rfl) (by simp) ?_
      refine AllReadyH.cons rfl (fun K hK=>?_) AllReadyH.nil
      go_simp
      refine hK.out _ _ ⟨s5,s7⟩ (fun hHeld=>?_)
      clear hK K
      refine wpAnyH_done (by kernel_rfl) ?_ _
      go_wp2_with fail
      go_roundg (rn - (i+1))
      case measure=>omega
      case rel=>exact ⟨i+1,by simp,by omega,Nat.le_refl _,HF⟩
   ·have hlt':¬ (i:Int)<(rn:Int):=by omega
    have HF:Hid (∃ va vc vs wt,R1 w wr h S p n rn va vc vs wt):=by
     have:i=rn:=by omega
     subst this
     exact J.out
    clear J
    go_wp2_with fail
    go_meet
    exact HF
 case rest =>
  obtain ⟨w8,hw8⟩:∃ w8,w8=wc:=⟨_,rfl⟩
  subst wc
  obtain ⟨va,vc,vs,wt,y⟩:=hcut.out
  obtain ⟨c0,c1,c2,c3,c4,c5,c6,c7⟩:=sbox y.yb.bs
  rw [HRA.out,HRN.out] at c7
  have HY:Hid (R1 w w8 h S p n rn va vc vs wt):=y
  have hst:S.st<n:=by have:=HWF.out.1.st;have:=HWF.out.2.2;omega
  clear y hcut H7 HC HOY HON
  go_wp2_with fail
  refine (HSY.out _ _ hst).mono ?_
  rintro e V1 ⟨rfl,hB1⟩
  clear c0 c1 c2 c3 c4 c5 c6 c7
  have HY1:Hid (R1 w V1 h S p n rn va vc vs wt):=HY.out.below hB1
  clear HY hB1
  obtain ⟨-,-,c2,-,-,-,-,-⟩:=sbox HY1.out.yb.bs
  have m3:V1.cell? ⟨p.b3,0,none⟩=some (.pointer (some ⟨p.mb,0,none⟩)):=by rw [qe HY1.out.yb.bm];rfl
  have HMK:Hid (MK n (List.replicate n false) []):=⟨by simp,List.nodup_nil,fun x hx=>by cases hx⟩
  go_wp2_with fail
  refine (j7 V1 w.heap.size p.mb p.fb vc n S.st va _ [] HY1.out.yb.mrk HMK.out hst hn HY1.out.yb.bel.size).mono ?_
  rintro e V2 ⟨rfl,va2,vc2,hm2,hv2⟩
  clear m3 c2
  have isf:∀ x,isF (List.replicate n false) x=true->False:=by
   intro x hx
   unfold isF at hx
   cases hq:(List.replicate n false)[x]? with
   | none=>rw [hq] at hx;cases hx
   | some b =>
    rw [hq] at hx
    have:=List.mem_of_getElem? hq
    rw [List.mem_replicate] at this
    rw [this.2] at hx
    cases hx
  have HI:Hid (IR w h S p n vs wt V2 va2 vc2 (mkd (List.replicate n false) [] S.st).1 (mkd (List.replicate n false) [] S.st).2):=by
   obtain ⟨a1,a2,a3⟩:=y9 HMK.out hst
   refine ⟨HY1.out.yb.mark hm2 hv2,a1.ok,?_,fun z hz=>?_,a2⟩
   ·rw [a1.pr]
    intro i r x y h0 hr hx hp hy
    unfold prc at hp
    simp only [Bool.and_eq_true] at hp
    exact (isf x hp.1).elim
   ·rcases a3 z hz with e | e
    ·exact (isf z e).elim
    ·subst e;exact Rch.start
  have HW:Hid (wt.length=n/\Rls S S.rs.length wt/\∀ (x:Nat) (l:List Nat),wt[x]?=some l->l.length<=100000):=by
   have y1:=HY1.out
   rw [<-HRN.out] at y1
   exact ⟨y1.wl,y1.rls,fun x l hl=>by have:=y1.rows x l hl;rw [HRN.out] at this;omega⟩
  have m3:V2.cell? ⟨p.b3,0,none⟩=some (.pointer (some ⟨p.mb,0,none⟩)):=by rw [qe HI.out.1.bm];rfl
  clear HY1 hm2 hv2 isf HMK
  generalize (mkd (List.replicate n false) [] S.st).1=fd at HI
  generalize (mkd (List.replicate n false) [] S.st).2=fr at HI
  go_wp2_with fail
  refine (qb5 70 #[.pointer (some ⟨p.b5,0,none⟩),.pointer (some ⟨p.b1,0,none⟩),.pointer (some ⟨p.b3,0,none⟩)] ql4 w.heap.size p.mb n hn (IR w h S p n vs wt) qq8 (qq9 HWF.out.1 HWF.out.2.1 HWF.out.2.2 HW.out.1 HW.out.2.1 HW.out.2.2) V2 va2 vc2 fd fr HI.out).mono ?_
  rintro e V5 ⟨rfl,va5,vc5,fd5,y5,mk5,hC5,hD5,hT5⟩
  have m3':V5.cell? ⟨p.b3,0,none⟩=some (.pointer (some ⟨p.mb,0,none⟩)):=by rw [qe y5.bm];rfl
  have m0':V5.cell? ⟨p.mb,0,none⟩=some (.slice (some ⟨p.fb,0,none⟩) n n):=by rw [qe y5.mrk.box,mk5.len];rfl
  have HF:Hid (fd5.length=n/\V5.ownsRow w.heap.size 4 1 (.slice (some ⟨p.fb,0,none⟩) n n) n (booC fd5)/\ko (Rch S) fd5/\Below w.heap.size w V5):=by
   have h1:=y5.mrk.fnd
   rw [mk5.len] at h1
   have hC:Clo S (isF fd5) fd5:=fun i r x y h0 hr hx hp hy=>hC5 i r x y h0 hr hx (by rw [qg7];exact hp) hy
   exact ⟨mk5.len,h1,qey hC hD5 hT5,y5.bel⟩
  clear y5 mk5 hC5 hD5 hT5 m3
  go_wp2_with fail
  go_ret
  exact ⟨p.fb,fd5,rfl,HF.out⟩
structure WH (S:Sp):Prop where
 nm:S.nm.length=S.tk+1+S.nt
 tk:S.tk<=100
 nt:S.nt<=200
 nr:S.rs.length<=300
 st:S.tk<S.st/\S.st<S.tk+1+S.nt
 rl:∀ (i:Nat) (r:SR),S.rs[i]?=some r->∃ x:Nat,r.l=(x:Int)/\S.tk<x/\x<S.tk+1+S.nt
 rr:∀ r∈S.rs,r.r.length<=100/\∀ y∈r.r,y<S.tk+1+S.nt
theorem WH.szs {S:Sp} (h:WH S):Szs S (S.tk+1+S.nt):=⟨h.nm,rfl,h.tk,h.nt⟩
def RcH (S:Sp) (x:Nat):Prop:=∀ P:Nat->Prop,P S.st->(∀ (i:Nat) (r:SR) (x y:Nat),S.rs[i]?=some r->r.l=(x:Int)->P x->y∈r.r->P y)->P x
theorem RcH.start {S:Sp}:RcH S S.st:=fun _ h1 _=>h1
theorem RcH.rule {S:Sp} (i:Nat) (r:SR) (x y:Nat) (hr:S.rs[i]?=some r) (hl:r.l=(x:Int)) (h:RcH S x) (hy:y∈r.r):RcH S y:=fun P h1 h2=>h2 i r x y hr hl (h P h1 h2) hy
def qgm (S:Sp) (fd:List Bool):Prop:=∀ x,isF fd x=true->RcH S x
def ClH (S:Sp) (P:Nat->Bool) (fd:List Bool):Prop:=∀ (i:Nat) (r:SR) (x y:Nat),S.rs[i]?=some r->r.l=(x:Int)->P x=true->y∈r.r->isF fd y=true
def RlH (S:Sp) (i:Nat) (wt:List (List Nat)):Prop:=∀ (x:Nat) (l:List Nat),wt[x]?=some l->∀ j,j∈l↔(j<i/\∃ r,S.rs[j]?=some r/\r.l=(x:Int))
theorem qj5 {S:Sp} {fd:List Bool} (hc:ClH S (isF fd) fd) (hd:qgm S fd) (hs:isF fd S.st=true):ko (RcH S) fd:=by
 have key:∀ x,RcH S x->isF fd x=true:=by
  intro x hx
  exact hx (fun x=>isF fd x=true) hs hc
 intro x b hb
 constructor
 ·rintro rfl
  exact hd x (by unfold isF;rw [hb];rfl)
 ·intro h
  have:=key x h
  unfold isF at this
  rw [hb] at this
  exact this
def LH (w W:World) (h:SHd) (S:Sp) (p:YP) (vs:List (Option Addr × Nat)) (wt:List (List Nat)) (n:Nat) (fd:List Bool) (fr:List Nat) (l:List Nat) (k:Nat):Prop :=
 ∃ va vc fd' fr',YB w W h S p va vc vs fd' fr' wt/\Adds n fd fr fd' fr'/\qgm S fd'/\∀ (j i:Nat) (r:SR) (y:Nat),j<k->l[j]?=some i->S.rs[i]?=some r->y∈r.r->isF fd' y=true
def LH2 (w W:World) (h:SHd) (S:Sp) (p:YP) (vs:List (Option Addr × Nat)) (wt:List (List Nat)) (n:Nat) (fd:List Bool) (fr:List Nat) (l:List Nat) (k:Nat) (r:SR) (k2:Nat):Prop :=
 ∃ va vc fd' fr',YB w W h S p va vc vs fd' fr' wt/\Adds n fd fr fd' fr'/\qgm S fd'/\(∀ (j i:Nat) (r:SR) (y:Nat),j<k->l[j]?=some i->S.rs[i]?=some r->y∈r.r->isF fd' y=true)/\∀ (j y:Nat),j<k2->r.r[j]?=some y->isF fd' y=true
theorem LH.open {w W:World} {h:SHd} {S:Sp} {p:YP} {vs:List (Option Addr × Nat)} {wt:List (List Nat)} {n:Nat} {fd:List Bool} {fr:List Nat} {l:List Nat} {k:Nat} (y:LH w W h S p vs wt n fd fr l k) (r:SR):LH2 w W h S p vs wt n fd fr l k r 0:=by
 obtain ⟨va,vc,fd',fr',h1,h2,h3,h4⟩:=y
 exact ⟨va,vc,fd',fr',h1,h2,h3,h4,fun j y hj=>absurd hj (Nat.not_lt_zero _)⟩
theorem LH2.shut {w W:World} {h:SHd} {S:Sp} {p:YP} {vs:List (Option Addr × Nat)} {wt:List (List Nat)} {n:Nat} {fd:List Bool} {fr:List Nat} {l:List Nat} {k i:Nat} {r:SR} (y:LH2 w W h S p vs wt n fd fr l k r r.r.length) (hi:l[k]?=some i) (hr:S.rs[i]?=some r):LH w W h S p vs wt n fd fr l (k+1):=by
 obtain ⟨va,vc,fd',fr',h1,h2,h3,h4,h5⟩:=y
 refine ⟨va,vc,fd',fr',h1,h2,h3,fun j i' r' y hj hi' hr' hy=>?_⟩
 rcases Nat.lt_or_ge j k with h | h
 ·exact h4 j i' r' y h hi' hr' hy
 ·have:j=k:=by omega
  subst this
  rw [hi] at hi'
  cases hi'
  rw [hr] at hr'
  cases hr'
  obtain ⟨m,hm⟩:=List.getElem?_of_mem hy
  exact h5 m y (List.getElem?_eq_some_iff.1 hm).1 hm
theorem LH2.below {w W W':World} {h:SHd} {S:Sp} {p:YP} {vs:List (Option Addr × Nat)} {wt:List (List Nat)} {n:Nat} {fd:List Bool} {fr:List Nat} {l:List Nat} {k k2:Nat} {r:SR} (y:LH2 w W h S p vs wt n fd fr l k r k2) (hb:Below W.heap.size W W'):LH2 w W' h S p vs wt n fd fr l k r k2:=by
 obtain ⟨va,vc,fd',fr',h1,h2⟩:=y
 exact ⟨va,vc,fd',fr',h1.below hb,h2⟩
theorem LH2.mark {w W:World} {h:SHd} {S:Sp} {p:YP} {vs:List (Option Addr × Nat)} {wt:List (List Nat)} {n:Nat} {fd:List Bool} {fr:List Nat} {l:List Nat} {k k2 z:Nat} {r:SR} (y:LH2 w W h S p vs wt n fd fr l k r k2) (hz:r.r[k2]?=some z) (hzn:z<n) (hn:n<=1000) (hzr:RcH S z) :
  Calls Tryz.prog 68 #[.pointer (some ⟨p.mb,0,none⟩),.int .i64 (z:Int)] W fun e W'=>e=.returned (.tuple #[])/\LH2 w W' h S p vs wt n fd fr l k r (k2+1):=by
 obtain ⟨va,vc,fd',fr',h1,h2,h3,h4,h5⟩:=y
 refine (j7 W w.heap.size p.mb p.fb vc n z va fd' fr' h1.mrk h2.ok hzn hn h1.bel.size).mono ?_
 rintro e W2 ⟨rfl,va2,vc2,hm2,hv2⟩
 obtain ⟨a1,a2,a3⟩:=y9 h2.ok hzn
 refine ⟨rfl,va2,vc2,_,_,h1.mark hm2 hv2,h2.trans a1,fun u hu=>?_,fun j i r y q1 q2 q3 q4=>a1.up y (h4 j i r y q1 q2 q3 q4),fun j y hj hy=>?_⟩
 ·rcases a3 u hu with e | e
  ·exact h3 u e
  ·subst e;exact hzr
 ·rcases Nat.lt_or_ge j k2 with h | h
  ·exact a1.up y (h5 j y h hy)
  ·have:j=k2:=by omega
   subst this
   rw [hz] at hy
   cases hy
   exact a2
theorem qlc (w W:World) (h:SHd) (S:Sp) (p:YP) (vs:List (Option Addr × Nat)) (wt:List (List Nat)) (n x:Nat) (fd:List Bool) (fr:List Nat) (l:List Nat) (y:LH w W h S p vs wt n fd fr l 0) (hwf:WH S) (hsp:IsSp w h S) (hnn:n=S.tk+1+S.nt) (hl:wt[x]?=some l) (hw:∀ i∈l,∃ r,S.rs[i]?=some r/\r.l=(x:Int)) (hd:RcH S x) (hll:l.length<=100000) :
  Calls Tryz.prog 70 #[.int .i64 (x:Int),.pointer (some ⟨p.b5,0,none⟩),.pointer (some ⟨p.b1,0,none⟩),.pointer (some ⟨p.b3,0,none⟩)] W fun e W'=>e=.returned (.tuple #[])/\LH w W' h S p vs wt n fd fr l l.length:=by
 have HY:Hid (LH w W h S p vs wt n fd fr l 0):=y
 have HWF:Hid (WH S/\IsSp w h S/\n=S.tk+1+S.nt/\RcH S x/\wt[x]?=some l):=⟨hwf,hsp,hnn,hd,hl⟩
 have HW:Hid (∀ i∈l,∃ r,S.rs[i]?=some r/\r.l=(x:Int)):=hw
 obtain ⟨va0,vc0,fd0,fr0,y0,-⟩:=y
 obtain ⟨q,hq,c1,-⟩:=y0.grd.at hl
 have c0:W.cell? ⟨p.b5,0,none⟩=some (.slice (some ⟨p.wb,0,none⟩) wt.length wt.length):=by rw [qe y0.bw];rfl
 have hx:x<wt.length:=(List.getElem?_eq_some_iff.1 hl).1
 have HQ:Hid (vs[x]?=some q):=hq
 obtain ⟨qa,qc⟩:=q
 simp only at c1
 have hlc:=z8 (y0.grd.row x _ l hq hl)
 simp only at hlc
 have hnr:S.rs.length<=300:=hwf.nr
 have HN:Hid (n<=1000):=by
  have h1:=hwf.tk
  have h2:=hwf.nt
  show n<=1000
  omega
 have HSY:Hid (∀ (V:World) (z:Nat),z<n->Calls Tryz.prog 67 #[.agg (sC h S),.int .i64 (z:Int)] V fun e w'=>e=.returned (.bool true)/\Below V.heap.size V w'):=fun V z hz=>qaa h S V n z (by rw [hnn];exact hwf.szs) hz
 clear y0 hq hl hd hsp hwf hw hnn
 generalize wt.length=wn at c0 hx
 obtain ⟨m,HM⟩:∃ m,Hid (l.length=m):=⟨_,rfl⟩
 rw [HM.out] at c1 hll hlc ⊢
 go_enter Tryz.func70,Tryz.ntmps70
 go_wp2_with fail
 go_loopg [14] m (fun kx s14 wr=>∃ k:Nat,s14=.int .i64 k/\k<=m/\m - k<=kx/\Hid (LH w wr h S p vs wt n fd fr l k))
 case atStart=>exact ⟨0,rfl,Nat.zero_le _,by omega,HY⟩
 case round =>
  clear c0 c1 HY
  obtain ⟨k,rfl,hk,hg,J⟩:=hrel
  by_cases hlt:k<m
  ·obtain ⟨va,vc,fd1,fr1,y,-⟩:=J.out
   obtain ⟨i,hi⟩:∃ i,l[k]?=some i:=⟨l[k]'(by rw [HM.out];exact hlt),List.getElem?_eq_getElem _⟩
   obtain ⟨r,hr,hrx⟩:=HW.out i (List.mem_of_getElem? hi)
   have hi1:i<S.rs.length:=(List.getElem?_eq_some_iff.1 hr).1
   have hrl:r.r.length<=100:=(HWF.out.1.rr r (List.mem_of_getElem? hr)).1
   have hrow:=y.grd.row x _ l HQ.out HWF.out.2.2.2.2
   simp only at hrow
   rw [HM.out] at hrow
   obtain ⟨qg,rfl⟩:∃ qg,qa=some ⟨qg,0,none⟩:=by
    obtain ⟨ao,c,e,-,-,h6⟩:=zh hrow
    cases e
    rcases h6 with ⟨-,h6,-⟩ | h6
    ·omega
    ·exact h6
   have d1:wr.cell? ⟨qg,k,none⟩=some (.int .i64 (i:Int)):=by
    rw [hrow.cellAt k (by omega)]
    unfold natC
    rw [List.getElem?_map,hi]
    rfl
   obtain ⟨rb,ro,xa,xc,hra,-,g1w,-,-,hxr⟩:=HWF.out.2.1.rl.at hr
   have g1:=qj y.bel g1w
   obtain ⟨-,-,-,-,-,-,-,g7⟩:=sbox y.bs
   rw [hra] at g7
   have hrc:=j6 HWF.out.2.1.rl
   have hxc:=ze hxr
   have HXR:Hid (Row w 1 xa r.r.length xc (natC r.r)):=hxr
   have HR:Hid (l[k]?=some i/\S.rs[i]?=some r/\∀ z∈r.r,z<n/\RcH S z):=⟨hi,hr,fun z hz=>⟨by rw [HWF.out.2.2.1];exact (HWF.out.1.rr r (List.mem_of_getElem? hr)).2 z hz,RcH.rule i r x z hr hrx HWF.out.2.2.2.1 hz⟩⟩
   have HY0:Hid (LH2 w wr h S p vs wt n fd fr l k r 0):=J.out.open r
   have HYB:Hid (YB w wr h S p va vc vs fd1 fr1 wt):=y
   have HRA:Hid (h.ra=some ⟨rb,ro,none⟩):=hra
   have hi1':(i:Int)<(S.rs.length:Int):=by omega
   have hlt':(k:Int)<(m:Int):=by omega
   clear y J hrow hi hr hrx hra hxr g1w
   generalize S.rs.length=rn at hnr hi1 g7 hrc hi1'
   generalize h.rc=rc at g7 hrc
   obtain ⟨rl,HRL⟩:∃ rl,Hid (r.r.length=rl):=⟨_,rfl⟩
   rw [HRL.out] at hrl hxc g1
   obtain ⟨wo,hwo⟩:∃ wo,wo=wr:=⟨_,rfl⟩
   subst wr
   go_wp2_with fail
   clear d1 g1 g7
   go_loopg [25] rl (fun kx s25 wr=>∃ k2:Nat,s25=.int .i64 k2/\k2<=rl/\rl - k2<=kx/\Hid (LH2 w wr h S p vs wt n fd fr l k r k2))
   case atStart=>exact ⟨0,rfl,Nat.zero_le _,by omega,HY0⟩
   case round =>
    clear HY0 HYB
    obtain ⟨k2,rfl,hk2,hg2,J⟩:=hrel
    by_cases hlt2:k2<rl
    ·have hlt2':(k2:Int)<(rl:Int):=by omega
     obtain ⟨z,hz⟩:∃ z,r.r[k2]?=some z:=⟨r.r[k2]'(by rw [HRL.out];exact hlt2),List.getElem?_eq_getElem _⟩
     obtain ⟨va2,vc2,fd2,fr2,y,-⟩:=J.out
     obtain ⟨b2,o2,hxa,q1⟩:=vj (HXR.out.below y.bel) hz
     subst hxa
     obtain ⟨hzn,hzr⟩:=HR.out.2.2 z (List.mem_of_getElem? hz)
     obtain ⟨s0,s1,s2,s3,s4,s5,s6,s7⟩:=sbox y.bs
     have HZ:Hid (r.r[k2]?=some z/\z<n/\RcH S z):=⟨hz,hzn,hzr⟩
     have HC:Hid (Calls Tryz.prog 67 #[.agg (sC h S),.int .i64 (z:Int)] wr fun e w'=>e=.returned (.bool true)/\Below wr.heap.size wr w'):=HSY.out wr z hzn
     unfold sC at HC
     clear y hz hzr
     go_wp2_with fail
     refine HC.out.mono ?_
     rintro e V ⟨rfl,hBV⟩
     have JV:Hid (LH2 w V h S p vs wt n fd fr l k r k2):=J.out.below hBV
     obtain ⟨va3,vc3,fd3,fr3,y3,-⟩:=JV.out
     have t3:V.cell? ⟨p.b3,0,none⟩=some (.pointer (some ⟨p.mb,0,none⟩)):=by rw [qe y3.bm];rfl
     clear y3 hBV HC J s0 s1 s2 s3 s4 s5 s6 s7 q1
     go_wp2_with fail
     refine (JV.out.mark HZ.out.1 HZ.out.2.1 HN.out HZ.out.2.2).mono ?_
     rintro e V2 ⟨rfl,hV2⟩
     have HV2:Hid (LH2 w V2 h S p vs wt n fd fr l k r (k2+1)):=hV2
     clear hV2 JV t3
     go_wp2_with fail
     go_roundg (rl - (k2+1))
     case measure=>omega
     case rel=>exact ⟨k2+1,by simp,by omega,Nat.le_refl _,HV2⟩
    ·have hlt2':¬ (k2:Int)<(rl:Int):=by omega
     have HF:Hid (LH w wr h S p vs wt n fd fr l (k+1)):=by
      have:k2=rl:=by omega
      subst this
      have j:=J.out
      rw [<-HRL.out] at j
      exact j.shut HR.out.1 HR.out.2.1
     clear J
     go_wp2_with fail
     go_roundg (m - (k+1))
     case measure=>omega
     case rel=>exact ⟨k+1,by simp,by omega,Nat.le_refl _,HF⟩
  ·have HF:Hid (LH w wr h S p vs wt n fd fr l m):=by
    have:k=m:=by omega
    subst this
    exact J.out
   clear J
   go_wp2_with fail
   go_end0
   exact ⟨rfl,HF.out⟩
structure H1 (w W:World) (h:SHd) (S:Sp) (p:YP) (n i:Nat) (va:Option Addr) (vc:Nat) (vs:List (Option Addr × Nat)) (wt:List (List Nat)):Prop where
 yb:YB w W h S p va vc vs (List.replicate n false) [] wt
 wl:wt.length=n
 rls:RlH S i wt
 rows:∀ (x:Nat) (l:List Nat),wt[x]?=some l->l.length<=i
theorem H1.below {w W W':World} {h:SHd} {S:Sp} {p:YP} {n i:Nat} {va:Option Addr} {vc:Nat} {vs:List (Option Addr × Nat)} {wt:List (List Nat)} (y:H1 w W h S p n i va vc vs wt) (hb:Below W.heap.size W W'):H1 w W' h S p n i va vc vs wt :=
 ⟨y.yb.below hb,y.wl,y.rls,y.rows⟩
theorem qpt (S:Sp) (n:Nat):RlH S 0 (List.replicate n []):=by
 intro x l hl j
 have h2:=List.mem_of_getElem? hl
 rw [List.mem_replicate] at h2
 rw [h2.2]
 constructor
 ·intro h;cases h
 ·rintro ⟨h,-⟩;omega
theorem qpu {S:Sp} {i x:Nat} {wt:List (List Nat)} {l:List Nat} {r:SR} (h:RlH S i wt) (hr:S.rs[i]?=some r) (hx:r.l=(x:Int)) (hl:wt[x]?=some l):RlH S (i+1) (wt.set x (l++[i])):=by
 intro y m hm j
 rw [List.getElem?_set] at hm
 have hxl:x<wt.length:=(List.getElem?_eq_some_iff.1 hl).1
 by_cases hy:x=y
 ·subst hy
  rw [if_pos rfl,if_pos hxl] at hm
  cases hm
  rw [List.mem_append,List.mem_singleton,h x l hl j]
  constructor
  ·rintro (⟨h2,h3⟩ | rfl)
   ·exact ⟨by omega,h3⟩
   ·exact ⟨by omega,r,hr,hx⟩
  ·rintro ⟨h2,h3⟩
   rcases Nat.lt_or_ge j i with h4 | h4
   ·exact .inl ⟨h4,h3⟩
   ·exact .inr (by omega)
 ·rw [if_neg hy] at hm
  rw [h y m hm j]
  constructor
  ·rintro ⟨h2,h3⟩
   exact ⟨by omega,h3⟩
  ·rintro ⟨h2,q,h3,h4⟩
   rcases Nat.lt_or_ge j i with h5 | h5
   ·exact ⟨h5,q,h3,h4⟩
   ·have:j=i:=by omega
    subst this
    rw [hr] at h3
    cases h3
    rw [hx] at h4
    omega
theorem H1.push {w W:World} {h:SHd} {S:Sp} {p:YP} {n i x:Nat} {va:Option Addr} {vc:Nat} {vs:List (Option Addr × Nat)} {wt:List (List Nat)} {r:SR} (y:H1 w W h S p n i va vc vs wt) (hr:S.rs[i]?=some r) (hx:r.l=(x:Int)) (hxn:x<n) (hb:i<10000) :
  ∃ qa qm qc g c W',W.cell? ⟨p.wb,x,none⟩=some (.slice qa qm qc)/\qm<=qc/\qc<=9223372036854775807/\(Builtin.append_ #[26,26] 26 #[.slice qa qm qc,.slice (some ⟨W.heap.size,0,none⟩) 1 1]).run Tryz.prog (W.alloc (.cells #[.int .i64 (i:Int)] 3))=.ok (.slice (some ⟨g,0,none⟩) (qm+1) c) W' /\
   W'.cell? ⟨p.wb,x,none⟩=some (.slice qa qm qc)/\W'.frozen? ⟨p.wb,x,none⟩=false/\W'.cell? ⟨p.b5,0,none⟩=some (.slice (some ⟨p.wb,0,none⟩) n n)/\Kept (fun k=>Loc W k 26\/Loc W k 3) W W' /\
   ∃ vs' wt',H1 w (W'.setCell ⟨p.wb,x,none⟩ (.slice (some ⟨g,0,none⟩) (qm+1) c)) h S p n (i+1) va vc vs' wt':=by
 obtain ⟨l,hl⟩:∃ l,wt[x]?=some l:=⟨wt[x]'(by rw [y.wl];exact hxn),List.getElem?_eq_getElem _⟩
 obtain ⟨q,hq,c1,-⟩:=y.yb.grd.at hl
 have hlen:=y.rows x l hl
 obtain ⟨g,c,W',hrun,-,-,k0,-,-,-⟩:=y.yb.grd.add (i:=i) y.yb.bel.size hl hq (by omega)
 obtain ⟨g2,c2,W2,hrun2,d1,f1,d5,yb,hK,hg⟩:=y.yb.push (i:=i) hl hq (by omega)
 rw [hrun] at hrun2
 injection hrun2 with e1 e2
 cases e1
 subst e2
 have hle:=z8 (y.yb.grd.row x q l hq hl)
 rw [y.wl] at d5
 refine ⟨q.1,l.length,q.2,g,c,W',c1,hle.1,hle.2,hrun,d1,f1,d5,k0.weaken (fun k e=>.inr (y.yb.grd.lt ⟨x,q,hq,e⟩).2.2),_,_,yb,by rw [List.length_set];exact y.wl,qpu y.rls hr hx hl,fun z m hm=>?_⟩
 rw [List.getElem?_set] at hm
 split at hm
 ·split at hm
  ·cases hm
   rw [List.length_append]
   simp
   omega
  ·cases hm
 ·have:=y.rows z m hm
  omega
def IH (w:World) (h:SHd) (S:Sp) (p:YP) (n:Nat) (vs:List (Option Addr × Nat)) (wt:List (List Nat)) (W:World) (va:Option Addr) (vc:Nat) (fd:List Bool) (fr:List Nat):Prop :=
 YB w W h S p va vc vs fd fr wt/\MK n fd fr/\ClH S (prc fd fr) fd/\qgm S fd/\isF fd S.st=true
theorem qrb {w:World} {h:SHd} {S:Sp} {p:YP} {n:Nat} {vs:List (Option Addr × Nat)} {wt:List (List Nat)}:∀ W va vc fd fr,IH w h S p n vs wt W va vc fd fr->MK n fd fr/\∃ fb,Mrk W w.heap.size p.mb fb va vc fd fr:=by
 rintro W va vc fd fr ⟨y,hm,-⟩
 exact ⟨hm,p.fb,y.mrk⟩
theorem qrd {w:World} {h:SHd} {S:Sp} {p:YP} {n:Nat} {vs:List (Option Addr × Nat)} {wt:List (List Nat)} (hwf:WH S) (hsp:IsSp w h S) (hnn:n=S.tk+1+S.nt) (hwl:wt.length=n) (hw:RlH S S.rs.length wt) (hrows:∀ (x:Nat) (l:List Nat),wt[x]?=some l->l.length<=100000) :
  ∀ W va vc fd fr x,IH w h S p n vs wt W va vc fd (fr++[x])->Calls Tryz.prog 70 (#[.int .i64 (x:Int)]++#[.pointer (some ⟨p.b5,0,none⟩),.pointer (some ⟨p.b1,0,none⟩),.pointer (some ⟨p.b3,0,none⟩)]) (popW W p.mb va fr.length vc) fun e W'=>e=.returned (.tuple #[])/\∃ va' vc' fd' fr',IH w h S p n vs wt W' va' vc' fd' fr'/\lft n fd' fr'<lft n fd (fr++[x]):=by
 rintro W va vc fd fr x ⟨y,hm,hC,hD,hT⟩
 obtain ⟨m1,m2,m3,m4⟩:=hm.pop
 obtain ⟨l,hl⟩:∃ l,wt[x]?=some l:=⟨wt[x]'(by rw [hwl];exact m4),List.getElem?_eq_getElem _⟩
 have y1:LH w (popW W p.mb va fr.length vc) h S p vs wt n fd fr l 0:=⟨va,vc,fd,fr,y.pop,Adds.refl m1,hD,fun j i r y hj=>absurd hj (Nat.not_lt_zero _)⟩
 refine (qlc w _ h S p vs wt n x fd fr l y1 hwf hsp hnn hl (fun i hi=>?_) (hD x m3) (hrows x l hl)).mono ?_
 ·obtain ⟨-,h3⟩:=(hw x l hl i).1 hi
  exact h3
 rintro e W' ⟨rfl,va',vc',fd',fr',y',A,D',L'⟩
 refine ⟨rfl,va',vc',fd',fr',⟨y',A.ok,?_,D',A.up _ hT⟩,?_⟩
 ·rw [A.pr]
  intro i r z u hr hz hp hu
  rw [qg5 m3 m2 z] at hp
  by_cases hzx:z=x
  ·subst hzx
   have hil:i∈l:=(hw z l hl i).2 ⟨(List.getElem?_eq_some_iff.1 hr).1,r,hr,hz⟩
   obtain ⟨j,hj⟩:=List.getElem?_of_mem hil
   exact L' j i r u (List.getElem?_eq_some_iff.1 hj).1 hj hr hu
  ·rw [if_neg hzx] at hp
   exact A.up u (hC i r z u hr hz hp hu)
 ·rw [qff A]
  exact qg6 m4 m3 m2
theorem qhk (w:World) (h:SHd) (S:Sp) (n:Nat) (hnn:n=S.tk+1+S.nt) (hwf:WH S) (hsp:IsSp w h S) (rb ro:Nat) (hra:h.ra=some ⟨rb,ro,none⟩) :
  Calls Tryz.prog 43 #[sv h S] w fun e w'=>BRes w w' n (RcH S) e:=by
 have hz:Szs S n:=by rw [hnn];exact hwf.szs
 have hn:n<=1000:=by have:=hwf.tk;have:=hwf.nt;omega
 have hrn:S.rs.length<=300:=hwf.nr
 have HC:Hid (∀ V:World,Calls Tryz.prog 65 #[.agg (sC h S)] V fun e w'=>e=.returned (.int .i64 (n:Int))/\Below V.heap.size V w'):=fun V=>qa0 h S V n hz
 have HSY:Hid (∀ (V:World) (z:Nat),z<n->Calls Tryz.prog 67 #[.agg (sC h S),.int .i64 (z:Int)] V fun e w'=>e=.returned (.bool true)/\Below V.heap.size V w'):=fun V z hx=>qaa h S V n z hz hx
 have HOY:Hid (∀ (V:World) (z:Nat),z<n->S.tk<z->Calls Tryz.prog 66 #[.agg (sC h S),.int .i64 (z:Int)] V fun e w'=>e=.returned (.bool true)/\Below V.heap.size V w'):=fun V z hx ht=>qed h S V n z hz hx ht
 have HWF:Hid (WH S/\IsSp w h S/\n=S.tk+1+S.nt):=⟨hwf,hsp,hnn⟩
 have hB0:Below w.heap.size w (w.alloc (.cells (sC h S) 31)):=qb _ _
 have hs0:(w.alloc (.cells (sC h S) 31)).heap[w.heap.size]?=some (.cells (sC h S) 31 (0,0)):=heap_alloc_new _ _
 have HRA:Hid (h.ra=some ⟨rb,ro,none⟩):=hra
 clear hwf hsp hnn hz
 unfold sv sC
 unfold sC at HC HSY HOY
 rw [hra] at HC HSY HOY  ⊢
 clear hra
 obtain ⟨rn,HRN⟩:∃ rn,Hid (S.rs.length=rn):=⟨_,rfl⟩
 rw [HRN.out] at HC HSY HOY  hrn ⊢
 go_enter Tryz.func43,Tryz.ntmps43
 go_upto_region 1 with fail
 have e0:w.alloc (.cells #[.int .i64 (S.tk:Int),.int .i64 (S.nt:Int),.int .i64 (S.st:Int),.int .i64 S.ex,.slice h.na S.nm.length h.nc,.slice h.la S.lv.length h.lc,.slice h.aa S.az.length h.ac,.slice (some ⟨rb,ro,none⟩) rn h.rc] 31)=w.alloc (.cells (sC h S) 31):=by unfold sC;rw [HRA.out,HRN.out]
 rw [e0]
 generalize w.alloc (.cells (sC h S) 31)=W0 at hB0 hs0 ⊢
 obtain ⟨b1,HB1⟩:∃ b1,Hid (b1=w.heap.size):=⟨_,rfl⟩
 rw [<-HB1.out] at hs0 ⊢
 obtain ⟨c0,c1,c2,c3,c4,c5,c6,c7⟩:=sbox hs0
 rw [HRA.out,HRN.out] at c7
 have HB0:Hid (Below w.heap.size w W0/\W0.heap[b1]?=some (.cells (sC h S) 31 (0,0))):=⟨hB0,hs0⟩
 clear e0 hB0 hs0
 go_wp2_with fail
 refine (HC.out _).mono ?_
 rintro e W1 ⟨rfl,hB1⟩
 have HB2:Hid (Below w.heap.size w W1/\W1.heap[b1]?=some (.cells (sC h S) 31 (0,0))):=⟨qd HB0.out.1 hB1,qf hB1 HB0.out.2⟩
 clear hB1 HB0
 go_wp2_with fail
 refine (qat W1 n hn).mono ?_
 rintro e W2 ⟨mb,fb,rfl,hM,hB2⟩
 clear c0 c1 c2 c3 c4 c5 c6 c7
 have h3:Below W2.heap.size W2 (W2.alloc (.cells #[.pointer (some ⟨mb,0,none⟩)] 94)):=qb _ _
 have HA:Hid (Below w.heap.size w (W2.alloc (.cells #[.pointer (some ⟨mb,0,none⟩)] 94))/\(W2.alloc (.cells #[.pointer (some ⟨mb,0,none⟩)] 94)).heap[b1]?=some (.cells (sC h S) 31 (0,0))/\(W2.alloc (.cells #[.pointer (some ⟨mb,0,none⟩)] 94)).heap[W2.heap.size]?=some (.cells #[.pointer (some ⟨mb,0,none⟩)] 94 (0,0))/\Mrk (W2.alloc (.cells #[.pointer (some ⟨mb,0,none⟩)] 94)) w.heap.size mb fb none 0 (List.replicate n false) []) :=
  ⟨qd (qd HB2.out.1 hB2) h3,qf h3 (qf hB2 HB2.out.2),heap_alloc_new _ _,(hM.mono HB2.out.1.size).keep (fun k hk=>h3.block k (hM.loc hk).2.1)⟩
 clear hM hB2 HB2 h3
 go_upto_region 2 with fail
 obtain ⟨b3,HB3⟩:∃ b3,Hid (b3=W2.heap.size):=⟨_,rfl⟩
 rw [<-HB3.out] at HA ⊢
 generalize W2.alloc (.cells #[.pointer (some ⟨mb,0,none⟩)] 94)=W5 at HA ⊢
 clear HB3
 have hrc:=j6 HWF.out.2.1.rl
 rw [HRN.out] at hrc
 obtain ⟨W6,hr6,hG6,hB6⟩:=qcj W5 w.heap.size n hn HA.out.1.size
 have d3:W5.cell? ⟨b3,0,none⟩=some (.pointer (some ⟨mb,0,none⟩)):=by rw [qe HA.out.2.2.1];rfl
 have dm:W5.cell? ⟨mb,0,none⟩=some (.slice (some ⟨fb,0,none⟩) n n):=by rw [qe HA.out.2.2.2.box,List.length_replicate];rfl
 have h7:Below W6.heap.size W6 (W6.alloc (.cells #[.slice (some ⟨W5.heap.size,0,none⟩) n n] 38)):=qb _ _
 have H7:Hid (H1 w (W6.alloc (.cells #[.slice (some ⟨W5.heap.size,0,none⟩) n n] 38)) h S ⟨b1,b3,W6.heap.size,mb,fb,W5.heap.size⟩ n 0 none 0 (List.replicate n (none,0)) (List.replicate n [])):=by
  obtain ⟨q1,q2,q3,q4⟩:=HA.out
  have hb:Below W5.heap.size W5 (W6.alloc (.cells #[.slice (some ⟨W5.heap.size,0,none⟩) n n] 38)):=qd hB6 h7
  refine ⟨⟨qd q1 hb,qf hb q2,qf hb q3,?_,q4.keep (fun k hk=>hb.block k (q4.loc hk).2.1),hG6.below h7,fun k hk=>(qgl hk).elim⟩,by simp,qpt S n,fun x l hl=>?_⟩
  ·simp only [List.length_replicate]
   exact heap_alloc_new _ _
  ·have:=List.mem_of_getElem? hl
   rw [List.mem_replicate] at this
   rw [this.2]
   simp
 clear hG6 hB6 h7 HA
 go_upto_region 3 with fail
 clear hr6 d3 dm
 generalize W6.alloc (.cells #[.slice (some ⟨W5.heap.size,0,none⟩) n n] 38)=W7 at H7 ⊢
 generalize W6.heap.size=b5 at H7 ⊢
 generalize W5.heap.size=wb at H7 ⊢
 obtain ⟨p,HP⟩:∃ p:YP,Hid (p=⟨b1,b3,b5,mb,fb,wb⟩):=⟨_,rfl⟩
 have p1:b1=p.b1:=by rw [HP.out]
 have p3:b3=p.b3:=by rw [HP.out]
 have p5:b5=p.b5:=by rw [HP.out]
 have pm:mb=p.mb:=by rw [HP.out]
 have pf:fb=p.fb:=by rw [HP.out]
 have pw:wb=p.wb:=by rw [HP.out]
 rw [<-HP.out] at H7
 clear HP HB1
 subst p1 p3 p5 pm pf pw
 obtain ⟨-,-,-,-,-,-,-,c7⟩:=sbox H7.out.yb.bs
 rw [HRA.out,HRN.out] at c7
 go_upto_block 0 with fail
 clear c7
 go_cut [19] (fun s19 wd=>Hid (∃ va vc vs wt,H1 w wd h S p n rn va vc vs wt))
 case first =>
  go_wp2_with fail
  go_loopg [19] rn (fun kx s19 wr=>∃ i:Nat,s19=.int .i64 i/\i<=rn/\rn - i<=kx/\Hid (∃ va vc vs wt,H1 w wr h S p n i va vc vs wt))
  case atStart=>exact ⟨0,rfl,Nat.zero_le _,by omega,(⟨_,_,_,_,H7.out⟩:∃ va vc vs wt,H1 w W7 h S p n 0 va vc vs wt)⟩
  case round =>
   clear H7
   obtain ⟨i,rfl,hi,hg,J⟩:=hrel
   by_cases hlt:i<rn
   ·have hlt':(i:Int)<(rn:Int):=by omega
    obtain ⟨va,vc,vs,wt,y⟩:=J.out
    obtain ⟨r,hr⟩:∃ r,S.rs[i]?=some r:=⟨S.rs[i]'(by rw [HRN.out];exact hlt),List.getElem?_eq_getElem _⟩
    obtain ⟨rb2,ro2,xa,xc,hra,d0,d1,d2,d3,hxr⟩:=HWF.out.2.1.rl.at hr
    rw [HRA.out] at hra
    cases hra
    have d0:=qj y.yb.bel d0
    have d1:=qj y.yb.bel d1
    have d2:=qj y.yb.bel d2
    have d3:=qj y.yb.bel d3
    have HR:Hid (S.rs[i]?=some r):=hr
    have hv:Below wr.heap.size wr (wr.alloc (.cells #[.int .i64 r.l,.slice xa r.r.length xc,.int .i64 r.lv,.int .i64 r.a] 47)):=qb _ _
    have HV:Hid (H1 w (wr.alloc (.cells #[.int .i64 r.l,.slice xa r.r.length xc,.int .i64 r.lv,.int .i64 r.a] 47)) h S p n i va vc vs wt/\(wr.alloc (.cells #[.int .i64 r.l,.slice xa r.r.length xc,.int .i64 r.lv,.int .i64 r.a] 47)).heap[wr.heap.size]?=some (.cells #[.int .i64 r.l,.slice xa r.r.length xc,.int .i64 r.lv,.int .i64 r.a] 47 (0,0))):=⟨y.below hv,heap_alloc_new _ _⟩
    clear y J hr hxr hv
    go_upto_region 6 with fail
    obtain ⟨b7,HB7⟩:∃ b7,Hid (b7=wr.heap.size):=⟨_,rfl⟩
    rw [<-HB7.out] at HV ⊢
    generalize wr.alloc (.cells #[.int .i64 r.l,.slice xa r.r.length xc,.int .i64 r.lv,.int .i64 r.a] 47)=V at HV ⊢
    clear HB7 d0 d1 d2 d3
    obtain ⟨c0,c1,c2,c3,c4,c5,c6,c7⟩:=sbox HV.out.1.yb.bs
    have e0:V.cell? ⟨b7,0,none⟩=some (.int .i64 r.l):=by rw [qe HV.out.2];rfl
    rw [HRA.out,HRN.out] at c7
    obtain ⟨xl,hxl,hxt,hxn⟩:=HWF.out.1.rl i r HR.out
    rw [<-HWF.out.2.2] at hxn
    rw [hxl] at e0
    go_wp2_with fail
    refine (HOY.out _ _ hxn hxt).mono ?_
    rintro e V4 ⟨rfl,hB4⟩
    have hb7:=qf hB4 HV.out.2
    have y4:=(HV.out.1.below hB4).below (qk V4)
    obtain ⟨qa,qm,qc,g,c,W',q2,q3,q4,hrun,d1,f1,d5,hK,vs',wt',y5⟩:=y4.push HR.out hxl hxn (by omega)
    have q5:V4.cell? ⟨p.b5,0,none⟩=some (.slice (some ⟨p.wb,0,none⟩) n n):=by
     have:=(HV.out.1.below hB4).yb.bw
     rw [y4.wl] at this
     rw [qe this];rfl
    have q7:V4.cell? ⟨b7,0,none⟩=some (.int .i64 (xl:Int)):=by rw [qe hb7,hxl];rfl
    have hb7':W'.heap[b7]?=some (.cells #[.int .i64 r.l,.slice xa r.r.length xc,.int .i64 r.lv,.int .i64 r.a] 47 (0,0)):=by
     rw [hK.block b7 (Array.getElem?_eq_some_iff.1 hb7).1 (fun e=>?_)]
     ·exact hb7
     ·rcases e with e | e
      ·exact qr ⟨_,hb7⟩ e (by decide) rfl
      ·exact qr ⟨_,hb7⟩ e (by decide) rfl
    have n5:p.b5≠p.wb:=qr ⟨_,(HV.out.1.below hB4).yb.bw⟩ (HV.out.1.below hB4).yb.grd.loc.2.2 (by decide)
    have n7:b7≠p.wb:=qr ⟨_,hb7⟩ (HV.out.1.below hB4).yb.grd.loc.2.2 (by decide)
    have d7:W'.cell? ⟨b7,0,none⟩=some (.int .i64 (xl:Int)):=by rw [qe hb7',hxl];rfl
    have q2:V4.cell? ⟨p.wb,xl,none⟩=some (.slice qa qm qc):=q2
    have hrun2:(Builtin.append_ #[26,26] 26 #[.slice qa qm qc,.slice (some ⟨V4.heap.size,0,none⟩) 1 1]).run Tryz.prog (V4.alloc (.cells #[.int .i64 (i:Int)] 3)).drew=.ok (.slice (some ⟨g,0,none⟩) (qm+1) c) W':=hrun
    have HF:Hid (∃ va vc vs wt,H1 w (W'.setCell ⟨p.wb,xl,none⟩ (.slice (some ⟨g,0,none⟩) (qm+1) c)) h S p n (i+1) va vc vs wt):=⟨_,_,_,_,y5⟩
    clear y4 y5 hB4 HV hrun c0 c1 c2 c3 c4 c5 c6 c7 e0 hb7 hb7' hK hxl
    go_upto_region 7 with fail
    have q5':=qo q5 (.cells #[.int .i64 (i:Int)] 3)
    have q2':=qo q2 (.cells #[.int .i64 (i:Int)] 3)
    have q7':=qo q7 (.cells #[.int .i64 (i:Int)] 3)
    have hzn':(xl:Int)<(n:Int):=by omega
    have s5:(W'.setCell ⟨p.wb,xl,none⟩ (.slice (some ⟨g,0,none⟩) (qm+1) c)).cell? ⟨p.b5,0,none⟩=some (.slice (some ⟨p.wb,0,none⟩) n n):=qz d5 n5
    have s7:(W'.setCell ⟨p.wb,xl,none⟩ (.slice (some ⟨g,0,none⟩) (qm+1) c)).cell? ⟨b7,0,none⟩=some (.int .i64 (xl:Int)):=qz d7 n7
    refine wp_region_held_drew (S:=fun w'=>w'.cell? ⟨p.b5,0,none⟩=some (.slice (some ⟨p.wb,0,none⟩) n n)/\w'.cell? ⟨b7,0,none⟩=some (.int .i64 (xl:Int))) (by kernel_rfl) ⟨q5,q7⟩ (fun hHeld=>?_)
    refine wpAnyH_take (i:=0) (v:=.slice (some ⟨p.wb,0,none⟩) n n) rfl (by kernel_rfl) (by kernel_rfl) (by kernel_rfl) (fun _ _ _ h=>h) (Or.inl ⟨by rfl,fun w9 hSw=>?_⟩) hHeld ?_
    ·obtain ⟨hs1,hs2⟩:=hSw
     go_simp
    simp only [Act.put]
    refine wpAnyH_take (i:=1) (v:=.pointer (some ⟨b7,0,none⟩)) rfl (by kernel_rfl) (by kernel_rfl) (by kernel_rfl) (fun _ _ _ h=>h) (Or.inl ⟨by rfl,fun w9 hSw=>?_⟩) hHeld ?_
    ·obtain ⟨hs1,hs2⟩:=hSw
     go_simp
    simp only [Act.put]
    refine wpAnyH_take (i:=2) (v:=.int .i64 (xl:Int)) rfl (by kernel_rfl) (by kernel_rfl) (by kernel_rfl) (fun _ _ _ h=>h) (Or.inl ⟨by rfl,fun w9 hSw=>?_⟩) hHeld ?_
    ·obtain ⟨hs1,hs2⟩:=hSw
     go_simp
    simp only [Act.put]
    refine wpAnyH_take (i:=3) (v:=.slice (some ⟨p.wb,0,none⟩) n n) rfl (by kernel_rfl) (by kernel_rfl) (by kernel_rfl) (fun _ _ _ h=>h) (Or.inl ⟨by rfl,fun w9 hSw=>?_⟩) hHeld ?_
    ·obtain ⟨hs1,hs2⟩:=hSw
     go_simp
    simp only [Act.put]
    refine wpAnyH_take (i:=4) (v:=.pointer (some ⟨b7,0,none⟩)) rfl (by kernel_rfl) (by kernel_rfl) (by kernel_rfl) (fun _ _ _ h=>h) (Or.inl ⟨by rfl,fun w9 hSw=>?_⟩) hHeld ?_
    ·obtain ⟨hs1,hs2⟩:=hSw
     go_simp
    simp only [Act.put]
    refine wpAnyH_take (i:=5) (v:=.int .i64 (xl:Int)) rfl (by kernel_rfl) (by kernel_rfl) (by kernel_rfl) (fun _ _ _ h=>h) (Or.inl ⟨by rfl,fun w9 hSw=>?_⟩) hHeld ?_
    ·obtain ⟨hs1,hs2⟩:=hSw
     go_simp
    simp only [Act.put]
    refine wpAnyH_take (i:=6) (v:=.pointer (some ⟨p.wb,xl,none⟩)) rfl (by kernel_rfl) (by kernel_rfl) (by kernel_rfl) (fun _ _ _ h=>h) (Or.inl ⟨by rfl,fun w9 hSw=>?_⟩) hHeld ?_
    ·obtain ⟨hs1,hs2⟩:=hSw
     go_simp
    simp only [Act.put]
    refine wpAnyH_take (i:=8) (v:=.int .i64 (i:Int)) rfl (by kernel_rfl) (by kernel_rfl) (by kernel_rfl) (fun _ _ _ h=>h) (Or.inl ⟨by rfl,fun w9 hSw=>?_⟩) hHeld ?_
    ·obtain ⟨hs1,hs2⟩:=hSw
     go_simp
    simp only [Act.put]
    refine wpAnyH_ready (rs:=[7,9]) (by kernel_rfl) (by simp) ?_
    refine AllReadyH.cons rfl (fun K hK=>?_) (AllReadyH.cons rfl (fun K hK=>?_) AllReadyH.nil)
    ·go_simp
     refine hK.out _ _ ⟨q5,q7⟩ (fun hHeld=>?_)
     clear hK K
     refine wpAnyH_ready (rs:=[9]) (by kernel_rfl) (by simp) ?_
     refine AllReadyH.cons rfl (fun K hK=>?_) AllReadyH.nil
     go_simp
     refine hK.out _ _ ⟨q5',q7'⟩ (fun hHeld=>?_)
     clear hK K
     refine wpAnyH_ready (rs:=[10]) (by kernel_rfl) (by simp) ?_
     refine AllReadyH.cons rfl (fun K hK=>?_) AllReadyH.nil
     refine zc rfl (.tmp 35) (.tmp 37) rfl rfl (by simp [Act.eval]) (by simp [Act.eval]) hrun2 (hK.out _ _ ⟨d5,d7⟩ (fun hHeld=>?_))
     simp only [Act.put]
     clear hK K
     refine wpAnyH_take (i:=11) (v:=.pointer (some ⟨p.wb,xl,none⟩)) rfl (by kernel_rfl) (by kernel_rfl) (by kernel_rfl) (fun _ _ _ h=>h) (Or.inl ⟨by rfl,fun w9 hSw=>?_⟩) hHeld ?_
     ·obtain ⟨hs1,hs2⟩:=hSw
      go_simp
     simp only [Act.put]
     refine wpAnyH_ready (rs:=[12]) (by kernel_rfl) (by simp) ?_
     refine AllReadyH.cons rfl (fun K hK=>?_) AllReadyH.nil
     go_simp
     refine hK.out _ _ ⟨s5,s7⟩ (fun hHeld=>?_)
     clear hK K
     refine wpAnyH_done (by kernel_rfl) ?_ _
     go_wp2_with fail
     go_roundg (rn - (i+1))
     case measure=>omega
     case rel=>exact ⟨i+1,by simp,by omega,Nat.le_refl _,HF⟩
    ·go_simp
     refine hK.out _ _ ⟨q5',q7'⟩ (fun hHeld=>?_)
     clear hK K
     refine wpAnyH_ready (rs:=[7]) (by kernel_rfl) (by simp) ?_
     refine AllReadyH.cons rfl (fun K hK=>?_) AllReadyH.nil
     go_simp
     refine hK.out _ _ ⟨q5',q7'⟩ (fun hHeld=>?_)
     clear hK K
     refine wpAnyH_ready (rs:=[10]) (by kernel_rfl) (by simp) ?_
     refine AllReadyH.cons rfl (fun K hK=>?_) AllReadyH.nil
     refine zc rfl (.tmp 35) (.tmp 37) rfl rfl (by simp [Act.eval]) (by simp [Act.eval]) hrun2 (hK.out _ _ ⟨d5,d7⟩ (fun hHeld=>?_))
     simp only [Act.put]
     clear hK K
     refine wpAnyH_take (i:=11) (v:=.pointer (some ⟨p.wb,xl,none⟩)) rfl (by kernel_rfl) (by kernel_rfl) (by kernel_rfl) (fun _ _ _ h=>h) (Or.inl ⟨by rfl,fun w9 hSw=>?_⟩) hHeld ?_
     ·obtain ⟨hs1,hs2⟩:=hSw
      go_simp
     simp only [Act.put]
     refine wpAnyH_ready (rs:=[12]) (by kernel_rfl) (by simp) ?_
     refine AllReadyH.cons rfl (fun K hK=>?_) AllReadyH.nil
     go_simp
     refine hK.out _ _ ⟨s5,s7⟩ (fun hHeld=>?_)
     clear hK K
     refine wpAnyH_done (by kernel_rfl) ?_ _
     go_wp2_with fail
     go_roundg (rn - (i+1))
     case measure=>omega
     case rel=>exact ⟨i+1,by simp,by omega,Nat.le_refl _,HF⟩
   ·have hlt':¬ (i:Int)<(rn:Int):=by omega
    have HF:Hid (∃ va vc vs wt,H1 w wr h S p n rn va vc vs wt):=by
     have:i=rn:=by omega
     subst this
     exact J.out
    clear J
    go_wp2_with fail
    go_meet
    exact HF
 case rest =>
  obtain ⟨w8,hw8⟩:∃ w8,w8=wc:=⟨_,rfl⟩
  subst wc
  obtain ⟨va,vc,vs,wt,y⟩:=hcut.out
  obtain ⟨c0,c1,c2,c3,c4,c5,c6,c7⟩:=sbox y.yb.bs
  rw [HRA.out,HRN.out] at c7
  have HY:Hid (H1 w w8 h S p n rn va vc vs wt):=y
  have hst:S.st<n:=by have:=HWF.out.1.st;have:=HWF.out.2.2;omega
  clear y hcut H7 HC HOY
  go_wp2_with fail
  refine (HSY.out _ _ hst).mono ?_
  rintro e V1 ⟨rfl,hB1⟩
  clear c0 c1 c2 c3 c4 c5 c6 c7
  have HY1:Hid (H1 w V1 h S p n rn va vc vs wt):=HY.out.below hB1
  clear HY hB1
  obtain ⟨-,-,c2,-,-,-,-,-⟩:=sbox HY1.out.yb.bs
  have m3:V1.cell? ⟨p.b3,0,none⟩=some (.pointer (some ⟨p.mb,0,none⟩)):=by rw [qe HY1.out.yb.bm];rfl
  have HMK:Hid (MK n (List.replicate n false) []):=⟨by simp,List.nodup_nil,fun x hx=>by cases hx⟩
  go_wp2_with fail
  refine (j7 V1 w.heap.size p.mb p.fb vc n S.st va _ [] HY1.out.yb.mrk HMK.out hst hn HY1.out.yb.bel.size).mono ?_
  rintro e V2 ⟨rfl,va2,vc2,hm2,hv2⟩
  clear m3 c2
  have isf:∀ x,isF (List.replicate n false) x=true->False:=by
   intro x hx
   unfold isF at hx
   cases hq:(List.replicate n false)[x]? with
   | none=>rw [hq] at hx;cases hx
   | some b =>
    rw [hq] at hx
    have:=List.mem_of_getElem? hq
    rw [List.mem_replicate] at this
    rw [this.2] at hx
    cases hx
  have HI:Hid (IH w h S p n vs wt V2 va2 vc2 (mkd (List.replicate n false) [] S.st).1 (mkd (List.replicate n false) [] S.st).2):=by
   obtain ⟨a1,a2,a3⟩:=y9 HMK.out hst
   refine ⟨HY1.out.yb.mark hm2 hv2,a1.ok,?_,fun z hz=>?_,a2⟩
   ·rw [a1.pr]
    intro i r x y hr hx hp hy
    unfold prc at hp
    simp only [Bool.and_eq_true] at hp
    exact (isf x hp.1).elim
   ·rcases a3 z hz with e | e
    ·exact (isf z e).elim
    ·subst e;exact RcH.start
  have HW:Hid (wt.length=n/\RlH S S.rs.length wt/\∀ (x:Nat) (l:List Nat),wt[x]?=some l->l.length<=100000):=by
   have y1:=HY1.out
   rw [<-HRN.out] at y1
   exact ⟨y1.wl,y1.rls,fun x l hl=>by have:=y1.rows x l hl;rw [HRN.out] at this;omega⟩
  have m3:V2.cell? ⟨p.b3,0,none⟩=some (.pointer (some ⟨p.mb,0,none⟩)):=by rw [qe HI.out.1.bm];rfl
  clear HY1 hm2 hv2 isf HMK
  generalize (mkd (List.replicate n false) [] S.st).1=fd at HI
  generalize (mkd (List.replicate n false) [] S.st).2=fr at HI
  go_wp2_with fail
  refine (qb5 70 #[.pointer (some ⟨p.b5,0,none⟩),.pointer (some ⟨p.b1,0,none⟩),.pointer (some ⟨p.b3,0,none⟩)] ql4 w.heap.size p.mb n hn (IH w h S p n vs wt) qrb (qrd HWF.out.1 HWF.out.2.1 HWF.out.2.2 HW.out.1 HW.out.2.1 HW.out.2.2) V2 va2 vc2 fd fr HI.out).mono ?_
  rintro e V5 ⟨rfl,va5,vc5,fd5,y5,mk5,hC5,hD5,hT5⟩
  have m3':V5.cell? ⟨p.b3,0,none⟩=some (.pointer (some ⟨p.mb,0,none⟩)):=by rw [qe y5.bm];rfl
  have m0':V5.cell? ⟨p.mb,0,none⟩=some (.slice (some ⟨p.fb,0,none⟩) n n):=by rw [qe y5.mrk.box,mk5.len];rfl
  have HF:Hid (fd5.length=n/\V5.ownsRow w.heap.size 4 1 (.slice (some ⟨p.fb,0,none⟩) n n) n (booC fd5)/\ko (RcH S) fd5/\Below w.heap.size w V5):=by
   have h1:=y5.mrk.fnd
   rw [mk5.len] at h1
   have hC:ClH S (isF fd5) fd5:=fun i r x y hr hx hp hy=>hC5 i r x y hr hx (by rw [qg7];exact hp) hy
   exact ⟨mk5.len,h1,qj5 hC hD5 hT5,y5.bel⟩
  clear y5 mk5 hC5 hD5 hT5 m3
  go_wp2_with fail
  go_ret
  exact ⟨p.fb,fd5,rfl,HF.out⟩
def hasT (tk:Nat) (r:SR):Bool:=r.r.any (fun z=>decide (z<tk))
def noT (S:Sp):Sp:=⟨S.tk,S.nt,S.st,S.ex,S.nm,S.lv,S.az,S.rs.filter (fun r=>!hasT S.tk r)⟩
def noH (S:Sp):Sp:=⟨S.tk,S.nt,S.st,S.ex,S.nm,S.lv,S.az,S.rs.drop 1⟩
theorem qhl {tk:Nat} {r:SR}:hasT tk r=false↔∀ y∈r.r,tk<=y:=by
 unfold hasT
 rw [List.any_eq_false]
 constructor
 ·intro h y hy
  have:=h y hy
  rw [decide_eq_true_eq] at this
  omega
 ·intro h y hy
  have:=h y hy
  rw [decide_eq_true_eq]
  omega
theorem ql5 {S:Sp} (h:WF S):S.rs=⟨-1,[S.st],0,0⟩ :: S.rs.drop 1:=by
 have:=h.hd
 cases hr:S.rs with
 | nil=>rw [hr] at this;cases this
 | cons a l =>
  rw [hr] at this
  cases this
  rfl
theorem qfo {S:Sp} {r:SR} (h:r∈S.rs.drop 1):∃ j,0<j/\S.rs[j]?=some r:=by
 obtain ⟨i,hi⟩:=List.getElem?_of_mem h
 rw [List.getElem?_drop] at hi
 exact ⟨1+i,by omega,hi⟩
theorem qfp {S:Sp} (h:WF S):(noT S).rs=⟨-1,[S.st],0,0⟩ :: (S.rs.drop 1).filter (fun r=>!hasT S.tk r):=by
 have h1:hasT S.tk ⟨-1,[S.st],0,0⟩=false:=qhl.2 (fun y hy=>by
  rw [List.mem_singleton] at hy
  subst hy
  exact Nat.le_of_lt h.st.1)
 show S.rs.filter _=_
 rw [ql5 h,List.filter_cons,h1]
 rfl
theorem qod {S:Sp} (h:WF S) {i:Nat} {r:SR} (h0:0<i) (hr:(noT S).rs[i]?=some r):r∈S.rs.drop 1/\hasT S.tk r=false:=by
 rw [qfp h] at hr
 obtain ⟨j,rfl⟩:∃ j,i=j+1:=⟨i - 1,by omega⟩
 rw [List.getElem?_cons_succ] at hr
 have:=List.mem_filter.1 (List.mem_of_getElem? hr)
 exact ⟨this.1,by simpa using this.2⟩
theorem qr8 {S:Sp} (h:WF S):WF (noT S):=by
 refine ⟨h.nm,h.lv,h.az,h.tk,h.nt,Nat.le_trans (List.length_filter_le _ _) h.nr,?_,h.st,fun i r h0 hr=>?_,fun r hr=>h.rr r (List.mem_filter.1 hr).1⟩
 ·rw [qfp h];rfl
 ·obtain ⟨h1,-⟩:=qod h h0 hr
  obtain ⟨j,hj,hs⟩:=qfo h1
  exact h.rl j r hj hs
theorem ql6 {S:Sp} (h:WF S) {x:Nat} (hx:S.tk<=x):Der (noT S) x↔Nul S x:=by
 constructor
 ·intro hd
  have:=hd (fun y=>y<S.tk\/Nul S y) (fun y hy=>.inl hy) (fun i r x h0 hr hl hy=>by
   obtain ⟨h1,h2⟩:=qod h h0 hr
   obtain ⟨j,hj,hs⟩:=qfo h1
   refine .inr (Nul.rule j r x hj hs hl (fun y hyy=>?_))
   rcases hy y hyy with h3 | h3
   ·have:=qhl.1 h2 y hyy;omega
   ·exact h3)
  rcases this with h1 | h1
  ·omega
  ·exact h1
 ·intro hn
  have:=hn (fun y=>Der (noT S) y/\S.tk<y) (fun i r x h0 hr hl hy=>by
   obtain ⟨z,hz,hz1,-⟩:=h.rl i r h0 hr
   have hzx:z=x:=by rw [hz] at hl;omega
   subst hzx
   have hT:hasT S.tk r=false:=qhl.2 (fun y hyy=>Nat.le_of_lt (hy y hyy).2)
   have hi1:1+(i - 1)=i:=by omega
   have hm:r∈S.rs.drop 1:=List.mem_of_getElem? (i:=i - 1) (by rw [List.getElem?_drop,hi1];exact hr)
   have hf:r∈(S.rs.drop 1).filter (fun r=>!hasT S.tk r):=List.mem_filter.2 ⟨hm,by rw [hT];rfl⟩
   obtain ⟨k,hk⟩:=List.getElem?_of_mem hf
   refine ⟨Der.rule (k+1) r z (Nat.succ_pos k) (by rw [qfp h,List.getElem?_cons_succ];exact hk) hl (fun y hyy=>(hy y hyy).1),hz1⟩)
  exact this.1
theorem qr9 {S:Sp} (h:WF S):WH (noH S):=by
 refine ⟨h.nm,h.tk,h.nt,?_,h.st,fun i r hr=>?_,fun r hr=>h.rr r (List.mem_of_mem_drop hr)⟩
 ·show (S.rs.drop 1).length<=300
  rw [List.length_drop]
  have:=h.nr
  omega
 ·have hr:(S.rs.drop 1)[i]?=some r:=hr
  rw [List.getElem?_drop] at hr
  exact h.rl (1+i) r (by omega) hr
theorem qre {S:Sp} {x:Nat}:RcH (noH S) x↔Rch S x:=by
 constructor
 ·intro h
  refine h (Rch S) Rch.start (fun i r x y hr hl hx hy=>?_)
  have hr:(S.rs.drop 1)[i]?=some r:=hr
  rw [List.getElem?_drop] at hr
  exact Rch.rule (1+i) r x y (by omega) hr hl hx hy
 ·intro h
  refine h (RcH (noH S)) RcH.start (fun i r x y h0 hr hl hx hy=>?_)
  refine RcH.rule (i - 1) r x y ?_ hl hx hy
  show (S.rs.drop 1)[i - 1]?=some r
  rw [List.getElem?_drop]
  have:1+(i - 1)=i:=by omega
  rw [this];exact hr
def okL (tk n:Nat) (r:SR):Bool:=decide ((tk:Int)<r.l/\r.l<(n:Int))
theorem qpv {S:Sp} (h:WF S):S.rs.filter (okL S.tk (S.tk+1+S.nt))=S.rs.drop 1:=by
 have h0:okL S.tk (S.tk+1+S.nt) ⟨-1,[S.st],0,0⟩=false:=by
  unfold okL
  rw [decide_eq_false_iff_not]
  simp only
  omega
 have h1:(S.rs.drop 1).filter (okL S.tk (S.tk+1+S.nt))=S.rs.drop 1:=List.filter_eq_self.2 (fun r hr=>by
  obtain ⟨j,hj,hs⟩:=qfo hr
  obtain ⟨z,hz,hz1,hz2⟩:=h.rl j r hj hs
  unfold okL
  rw [decide_eq_true_eq,hz]
  omega)
 conv=>lhs;rw [ql5 h]
 rw [List.filter_cons,h0,h1]
 rfl
theorem qrf {W:World} {T E n nc xc:Nat} {na xa:Option Addr} {i:TypeInfo} (ht:Tryz.prog.underlying T=some (.slice E)) (hi:Tryz.prog.info? E=some i) (hn:n<=nc) :
  (Builtin.append_ #[T,T] T #[.slice na n nc,.slice xa 0 xc]).run Tryz.prog W=.ok (.slice na n nc) W:=by
 cases na <;> cases xa <;> simp [Builtin.append_,run_underlying ht,sizeOf,typeInfo,hi,Builtin.lenOf,Builtin.firstCells,hn,loadCells,loadCellsFrom,storeCells]
theorem qoe {W:World} {B T E k n nc m xc:Nat} {na xa:Option Addr} {z:Value} {by_:Nat} {cs us:List Value} (ht:Tryz.prog.underlying T=some (.slice E)) (hi0:(Tryz.prog.info? E).map (fun i=>(i.zero,i.size,i.bytes))=some (some z,k,by_)) (hzc:z.cells.size=k) (hk:0<k) (hby:by_<=100) (hone:∀ u∈us,u.oneCell'=true)
  (h:W.ownsRow B E k (.slice na n nc) n cs) (hB:B<=W.heap.size) (hx:Row W k xa m xc us) (hn:n+m<1000000) (hm:0<m) :
  ∃ g c W',(Builtin.append_ #[T,T] T #[.slice na n nc,.slice xa m xc]).run Tryz.prog W=.ok (.slice (some ⟨g,0,none⟩) (n+m) c) W'/\W'.ownsRow B E k (.slice (some ⟨g,0,none⟩) (n+m) c) (n+m) (cs++us) /\
   Kept (fun j=>blk na=some j) W W'/\(blk na=some g\/W.heap.size<=g):=by
 obtain ⟨i0,hi,hz0,hz1,hz2⟩:=info_parts hi0
 obtain ⟨b,o,rfl,hc⟩:=hx.at hm
 have hnews:∀ j x,us[j]?=some x->W.cell? ((⟨b,o,none⟩:Addr).add j)=some x:=fun j x hj=>by
  rw [Addr.add_lit];exact hc j x hj
 have hbb:(n+m) * by_<=140737488355328:=Nat.le_trans (Nat.mul_le_mul (by omega:n+m<=1000000) hby) (by decide)
 obtain ⟨v',w',hr,h2,h3,-⟩:=run_append_own (P:=Tryz.prog) W B T T E i0 _ k by_ ht hi hz0 hz1 hz2 hzc hk _ n _ h ⟨b,o,none⟩ m xc us hx.len hnews hone (by unfold maxLen;omega) hbb hB
 obtain ⟨v1,w1,hr1,-,hk1,hl1⟩:=qai (P:=Tryz.prog) W T T E i0 _ k by_ ht hi hz0 hz1 hz2 hzc hk _ n _ (zd h (Nat.zero_le _)) ⟨b,o,none⟩ m xc us hx.len hnews hone (by unfold maxLen;omega) hbb
 rw [hr] at hr1
 injection hr1 with e1 e2
 subst e1 e2
 obtain ⟨ao,c,rfl,h4,h5,h6⟩:=zh h2
 obtain ⟨g,rfl⟩:∃ g,ao=some ⟨g,0,none⟩:=by
  rcases h6 with ⟨-,h6,-⟩ | h6
  ·omega
  ·exact h6
 refine ⟨g,c,w',hr,h2,hk1.weaken (fun k e=>zi e),?_⟩
 rcases hl1 g rfl with h7 | h7
 ·exact .inl (zi h7)
 ·exact .inr h7
theorem qpw (l:List Nat):∀ u∈natC l,u.oneCell'=true:=by
 intro u hu
 obtain ⟨x,-,rfl⟩:=List.mem_map.1 hu
 rfl
theorem qpx (l m:List Nat):natC (l++m)=natC l++natC m:=by unfold natC;rw [List.map_append]
theorem qrg {W:World} {B n nc m xc:Nat} {na xa:Option Addr} {l us:List Nat} (h:W.ownsRow B 3 1 (.slice na n nc) n (natC l)) (hB:B<=W.heap.size) (hx:Row W 1 xa m xc (natC us)) (hn:n+m<1000000) :
  ∃ va c W',(Builtin.append_ #[26,26] 26 #[.slice na n nc,.slice xa m xc]).run Tryz.prog W=.ok (.slice va (n+m) c) W'/\W'.ownsRow B 3 1 (.slice va (n+m) c) (n+m) (natC (l++us)) /\
   Kept (fun j=>blk na=some j) W W'/\∀ g,blk va=some g->blk na=some g\/W.heap.size<=g:=by
 by_cases hm:0<m
 ·obtain ⟨g,c,W',hr,ho,hk,hg⟩:=qoe u29 i3 rfl (by decide) (by decide) (qpw us) h hB hx hn hm
  refine ⟨_,c,W',hr,by rw [qpx];exact ho,hk,fun g' e=>by cases e;exact hg⟩
 ·have h0:m=0:=by omega
  subst h0
  have hl:=hx.len
  rw [js,Nat.zero_mul] at hl
  have:us=[]:=List.length_eq_zero_iff.1 hl
  subst this
  obtain ⟨i0,hi,-⟩:=info_parts i3
  refine ⟨na,nc,W,qrf u29 hi (z8 h).1,by rw [List.append_nil];exact h,Kept.refl _ _,fun g' e=>.inl e⟩
theorem ql7 {W:World} {B n nc:Nat} {na:Option Addr} {l:List Nat} (h:W.ownsRow B 3 1 (.slice na n nc) n (natC l)) (hB:B<=W.heap.size) (hn:n<100000) (y:Nat) :
  ∃ g c W',(Builtin.append_ #[26,26] 26 #[.slice na n nc,.slice (some ⟨W.heap.size,0,none⟩) 1 1]).run Tryz.prog (W.alloc (.cells #[.int .i64 (y:Int)] 3))=.ok (.slice (some ⟨g,0,none⟩) (n+1) c) W'/\W'.ownsRow B 3 1 (.slice (some ⟨g,0,none⟩) (n+1) c) (n+1) (natC (l++[y]))/\Kept (fun j=>blk na=some j) W W'/\Below B W W':=by
 obtain ⟨g,c,W',hr,ho,hk,-⟩:=jc (us:=[.int .i64 (y:Int)]) u29 i3 rfl (by decide) (by decide) rfl (fun u hu=>by rw [List.mem_singleton] at hu;subst hu;rfl) h hB hn
 have k0:Kept (fun j=>blk na=some j) W W':=((Kept.refl _ W).alloc _).trans hk (fun k _ e=>zi e)
 exact ⟨g,c,W',hr,by rw [jf];exact ho,k0,k0.below hB (fun j hj e=>by have:=(qw h e).1;omega)⟩
abbrev QR:=SR × Option Addr × Nat
theorem jq (qs:List QR):(srC qs).length=qs.length * 4:=by
 unfold srC
 exact qcq _ (fun _=>rfl) qs
theorem qsa {qs:List QR} {i:Nat} {q:QR} (h:qs[i]?=some q) (j:Nat) (hj:j<4):(srC qs)[i * 4+j]?=[Value.int .i64 q.1.l,.slice q.2.1 q.1.r.length q.2.2,.int .i64 q.1.lv,.int .i64 q.1.a][j]? :=
 qas (fun q:QR=>[Value.int .i64 q.1.l,.slice q.2.1 q.1.r.length q.2.2,.int .i64 q.1.lv,.int .i64 q.1.a]) (fun _=>rfl) qs i q j h hj
theorem qrh (qs:List QR):∀ u∈srC qs,u.oneCell'=true:=by
 intro u hu
 obtain ⟨q,-,h⟩:=List.mem_flatMap.1 hu
 simp only [List.mem_cons,List.not_mem_nil,or_false] at h
 rcases h with rfl | rfl | rfl | rfl <;> rfl
theorem ql8:∀ {qs:List QR} {i:Nat} {q:QR},i<qs.length->((((srC qs).set (i * 4) (.int .i64 q.1.l)).set (i * 4+1) (.slice q.2.1 q.1.r.length q.2.2)).set (i * 4+2) (.int .i64 q.1.lv)).set (i * 4+3) (.int .i64 q.1.a)=srC (qs.set i q)
 | [],_,_,h=>absurd h (Nat.not_lt_zero _)
 | _ :: _,0,_,_=>rfl
 | p :: qs,i+1,q,h=>by
  have ih:=ql8 (qs:=qs) (i:=i) (q:=q) (by simpa using h)
  have e:∀ (p:QR) (qs:List QR),srC (p :: qs)=.int .i64 p.1.l :: .slice p.2.1 p.1.r.length p.2.2 :: .int .i64 p.1.lv :: .int .i64 p.1.a :: srC qs:=fun _ _=>rfl
  have e4:(i+1) * 4=i * 4+1+1+1+1:=by omega
  rw [e,List.set_cons_succ,e,e4]
  simp only [List.set_cons_succ]
  rw [ih]
theorem qpy (qs:List QR) (i:Nat):(srC qs).take (i * 4)=srC (qs.take i):=by
 induction i generalizing qs with
 | zero=>simp [srC]
 | succ i ih =>
  cases qs with
  | nil=>simp [srC]
  | cons p qs =>
   have e:∀ (p:QR) (qs:List QR),srC (p :: qs)=.int .i64 p.1.l :: .slice p.2.1 p.1.r.length p.2.2 :: .int .i64 p.1.lv :: .int .i64 p.1.a :: srC qs:=fun _ _=>rfl
   have e4:(i+1) * 4=i * 4+1+1+1+1:=by omega
   rw [e,List.take_succ_cons,e,e4]
   simp only [List.take_succ_cons]
   rw [ih]
theorem qpz {V:World} {B g n c i:Nat} {cs:List QR} (h:V.ownsRow B 47 4 (.slice (some ⟨g,0,none⟩) n c) n (srC cs)) (hi:i<n) (q:QR) :
  ((((V.setCell ⟨g,i * 4,none⟩ (.int .i64 q.1.l)).setCell ⟨g,i * 4+1,none⟩ (.slice q.2.1 q.1.r.length q.2.2)).setCell ⟨g,i * 4+2,none⟩ (.int .i64 q.1.lv)).setCell ⟨g,i * 4+3,none⟩ (.int .i64 q.1.a)).ownsRow B 47 4 (.slice (some ⟨g,0,none⟩) n c) n (srC (cs.set i q)):=by
 have hl:=h.1
 rw [jq] at hl
 have h1:=(((((h.stored (i * 4) (.int .i64 q.1.l)).1).stored (i * 4+1) (.slice q.2.1 q.1.r.length q.2.2)).1.stored (i * 4+2) (.int .i64 q.1.lv)).1.stored (i * 4+3) (.int .i64 q.1.a)).1
 rw [ql8 (by omega)] at h1
 exact h1
theorem qof {V:World} {g i:Nat} {a b d e:Value}:Kept (fun k=>k=g) V ((((V.setCell ⟨g,i * 4,none⟩ a).setCell ⟨g,i * 4+1,none⟩ b).setCell ⟨g,i * 4+2,none⟩ d).setCell ⟨g,i * 4+3,none⟩ e) :=
 Kept.setCell (S:=fun k=>k=g) (Kept.setCell (S:=fun k=>k=g) (Kept.setCell (S:=fun k=>k=g) (Kept.setCell (S:=fun k=>k=g) (Kept.refl _ V) ⟨g,i * 4,none⟩ a (fun _=>rfl)) ⟨g,i * 4+1,none⟩ b (fun _=>rfl)) ⟨g,i * 4+2,none⟩ d (fun _=>rfl)) ⟨g,i * 4+3,none⟩ e (fun _=>rfl)
theorem qp0 (V:World) (g:Nat) (cs:Array Value):Kept (fun k=>k=g) V (V.setRow g cs):=by
 refine ⟨rfl,rfl,rfl,by simp [World.setRow],fun k hk hne=>?_⟩
 unfold World.setRow
 rw [Array.getElem?_modify]
 rw [if_neg (fun e=>hne e.symm)]
theorem qog {V:World} {B g n c i:Nat} {cs:List QR} (h:V.ownsRow B 47 4 (.slice (some ⟨g,0,none⟩) n c) n (srC cs)) (hi:i<n) :
  ∃ W',(∀ ty,(Builtin.clear_ #[29] ty #[.slice (some ⟨g,i * 4,none⟩) (n - i) (c - i)]).run Tryz.prog V=.ok (.tuple #[]) W')/\W'.ownsRow B 47 4 (.slice (some ⟨g,0,none⟩) i c) i (srC (cs.take i))/\Kept (fun k=>k=g) V W':=by
 obtain ⟨i0,h1,hz0,hz1,hz2⟩:=info_parts i62
 rcases h.2 with ⟨hv,-⟩ | ⟨g',c',cur,hv,hb,hh,h2,h3,h4,h5⟩
 ·cases hv
 cases hv
 obtain ⟨m,hm⟩:∃ m,n - i=m+1:=⟨n - i - 1,by omega⟩
 have hzl:(Builtin.zeroCells (Value.agg #[.int .i64 0,.slice none 0 0,.int .i64 0,.int .i64 0]).cells (m+1)).toList.length=(m+1) * 4:=by
  simp [Builtin.zeroCells,Value.cells]
 have hz1':∀ v∈(Builtin.zeroCells (Value.agg #[.int .i64 0,.slice none 0 0,.int .i64 0,.int .i64 0]).cells (m+1)).toList,v.oneCell'=true:=by
  intro v hv
  simp only [Builtin.zeroCells,Array.toList_map,List.mem_map] at hv
  obtain ⟨j,-,rfl⟩:=hv
  have:j % 4=0\/j % 4=1\/j % 4=2\/j % 4=3:=by omega
  simp only [Value.cells]
  rcases this with e | e | e | e <;> simp [e] <;> rfl
 obtain ⟨zs,hzs⟩:∃ zs,Builtin.zeroCells (Value.agg #[.int .i64 0,.slice none 0 0,.int .i64 0,.int .i64 0]).cells (m+1)=zs:=⟨_,rfl⟩
 rw [hzs] at hzl hz1'
 have hst:=run_storeCells_at (P:=Tryz.prog) g (i * 4) 47 zs.toList 0 cur V hh (by rw [hzl];omega) hz1'
 refine ⟨V.setRow g (cur.toList.take (i * 4+0)++zs.toList++cur.toList.drop (i * 4+0+zs.toList.length)).toArray,fun ty=>?_,?_,qp0 V g _⟩
 ·rw [hm]
  simp only [Builtin.clear_]
  simp [run_underlying u30,zeroValue,h1,hz0,typeInfo,hzs,hst]
 ·refine ⟨by rw [jq,List.length_take];have:=h.1;rw [jq] at this;omega,.inr ⟨g,c,_,rfl,hb,setRow_heap _ _ _ _ _ _ hh,by omega,h3,?_,?_⟩⟩
  ·rw [List.size_toArray,List.length_append,List.length_append,List.length_take,List.length_drop,hzl,Array.length_toList]
   omega
  ·rw [<-qpy,<-h5]
   simp only [Nat.add_zero]
   rw [List.append_assoc,List.take_append_of_le_length (by rw [List.length_take,Array.length_toList];omega),List.take_take,List.take_take,Nat.min_self,Nat.min_eq_left (by omega)]
theorem qm4 {V:World} {B g n c i:Nat} {cs:List QR} (h:V.ownsRow B 47 4 (.slice (some ⟨g,0,none⟩) n c) n (srC cs)) (hi:i<n) (v0 v1 v2:Value) :
  ∃ u0 u1 u2 u3,V.cell? ⟨g,i * 4,none⟩=some u0/\(V.setCell ⟨g,i * 4,none⟩ v0).cell? ⟨g,i * 4+1,none⟩=some u1/\((V.setCell ⟨g,i * 4,none⟩ v0).setCell ⟨g,i * 4+1,none⟩ v1).cell? ⟨g,i * 4+2,none⟩=some u2/\(((V.setCell ⟨g,i * 4,none⟩ v0).setCell ⟨g,i * 4+1,none⟩ v1).setCell ⟨g,i * 4+2,none⟩ v2).cell? ⟨g,i * 4+3,none⟩=some u3/\V.frozen? ⟨g,i * 4,none⟩=false/\(V.setCell ⟨g,i * 4,none⟩ v0).frozen? ⟨g,i * 4+1,none⟩=false/\((V.setCell ⟨g,i * 4,none⟩ v0).setCell ⟨g,i * 4+1,none⟩ v1).frozen? ⟨g,i * 4+2,none⟩=false/\(((V.setCell ⟨g,i * 4,none⟩ v0).setCell ⟨g,i * 4+1,none⟩ v1).setCell ⟨g,i * 4+2,none⟩ v2).frozen? ⟨g,i * 4+3,none⟩=false:=by
 have h1:=(h.stored (i * 4) v0).1
 have h2:=(h1.stored (i * 4+1) v1).1
 have h3:=(h2.stored (i * 4+2) v2).1
 have key:∀ {U:World} {xs:List Value} (j:Nat),U.ownsRow B 47 4 (.slice (some ⟨g,0,none⟩) n c) n xs->j<n * 4->∃ u,U.cell? ⟨g,j,none⟩=some u:=fun {U xs} j hu hj=>by
  have hl:=hu.1
  exact ⟨xs[j]'(by omega),by rw [hu.cellAt j (by omega)];exact List.getElem?_eq_getElem _⟩
 obtain ⟨u0,k0⟩:=key (i * 4) h (by omega)
 obtain ⟨u1,k1⟩:=key (i * 4+1) h1 (by omega)
 obtain ⟨u2,k2⟩:=key (i * 4+2) h2 (by omega)
 obtain ⟨u3,k3⟩:=key (i * 4+3) h3 (by omega)
 exact ⟨u0,u1,u2,u3,k0,k1,k2,k3,h.frozenAt _,h1.frozenAt _,h2.frozenAt _,h3.frozenAt _⟩
end Go.Proofs.YtngclmglmhiljaaGreatDoor
