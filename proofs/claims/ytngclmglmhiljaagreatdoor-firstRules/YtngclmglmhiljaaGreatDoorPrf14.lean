/- Texts that the proofs of the First statements stand on, part Prf14. -/
import Derived.Deep.RegionHeld
import Derived.Test.YtngclmglmhiljaaGreatDoorPrf13
set_option maxHeartbeats 16000000
set_option maxRecDepth 100000
namespace Go.Proofs.YtngclmglmhiljaaGreatDoor
open Go.RowKit
def set4 (W:World) (b:Nat) (v0 v1 v2 v3:Value):World:=(((W.setCell ⟨b,0,none⟩ v0).setCell ⟨b,1,none⟩ v1).setCell ⟨b,2,none⟩ v2).setCell ⟨b,3,none⟩ v3
theorem qko{W:World}{b j T:Nat}{cs:Array Value}(v:Value)(h:W.heap[b]?=some (.cells cs T (0,0))):(W.setCell ⟨b,j,none⟩ v).heap[b]?=some (.cells (cs.setIfInBounds j v) T (0,0)):=by
 rw[setCell_eq_setRow W b j _ T (0,0) _ h];exact setRow_heap _ _ _ _ T _ h
theorem yf{w W:World}{b:Nat}(v0 v1 v2 v3:Value)(h:Below w.heap.size w W)(a:w.heap.size<=b):Below w.heap.size w (set4 W b v0 v1 v2 v3) :=
 (((h.setCell (p:=⟨b,0,none⟩) a _).setCell (p:=⟨b,1,none⟩) a _).setCell (p:=⟨b,2,none⟩) a _).setCell (p:=⟨b,3,none⟩) a _
theorem j1{W:World}{b T:Nat}{a c d f:Value}(h:W.heap[b]?=some (.cells #[a,c,d,f] T (0,0))):
  W.cell? ⟨b,0,none⟩=some a/\W.cell? ⟨b,1,none⟩=some c/\W.cell? ⟨b,2,none⟩=some d/\W.cell? ⟨b,3,none⟩=some f/\W.frozen? ⟨b,0,none⟩=false/\W.frozen? ⟨b,1,none⟩=false/\W.frozen? ⟨b,2,none⟩=false/\W.frozen? ⟨b,3,none⟩=false :=
 ⟨by rw[qe h];rfl,by rw[qe h];rfl,by rw[qe h];rfl,by rw[qe h];rfl,qi h 0,qi h 1,qi h 2,qi h 3⟩
structure GT (W1 wr:World) (gb:Nat) (ta:Option Addr) (tc:Nat) (ts:List Tk) (st:ByteArray) (ex:Int) (v:Value):Prop where
 box:wr.heap[gb]?=some (.cells #[.slice ta ts.length tc,.string st,.int .i64 ex,v] 25 (0,0))
 tok:wr.ownsRow W1.heap.size 58 3 (.slice ta ts.length tc) ts.length (tokC ts)
 bel:Below W1.heap.size W1 wr
 new:W1.heap.size<=gb
theorem GT.step{c wr a:World}{f k:Nat}{j:Option Addr}{ts:List Tk}{h:ByteArray}{d:Int}{v:Value}(g:GT c wr f j k ts h d v)(b:Below wr.heap.size wr a):GT c a f j k ts h d v :=
 ⟨qf b g.box,qh g.tok (fun i l=>b.block i (World.ownsRow.lt g.tok i l).2),qd g.bel b,g.new⟩
theorem GT.add{y W:World}{h x:Nat}{s:Option Addr}{ts:List Tk}{r:ByteArray}{q:Int}{v:Value}(g:GT y W h s x ts r q v)(K:ts.length<=1000)(t:Tk):
  ∃f n c m,(Builtin.append_ #[22,22] 22 #[.slice s ts.length x,.slice (some ⟨W.heap.size,0,none⟩) 1 1]).run Tryz.prog (W.alloc (.cells #[.string t.n,.int .i64 t.l,.int .i64 t.a] 58))=.ok (.slice f n c) m/\n=ts.length+1/\m.heap[h]?=some (.cells #[.slice s ts.length x,.string r,.int .i64 q,v] 25 (0,0)) /\
   GT y (m.setCell ⟨h,0,none⟩ (.slice f n c)) h f c (ts++[t]) r q v:=by
 obtain⟨J,A,B,C,D⟩:=info_parts Tryz.info58;have d:=g.step (qb W (.cells #[.string t.n,.int .i64 t.l,.int .i64 t.a] 58))
 have o:∀j u,(tokC [t])[j]?=some u->(W.alloc (.cells #[.string t.n,.int .i64 t.l,.int .i64 t.a] 58)).cell? ((⟨W.heap.size,0,none⟩:Addr).add j)=some u:=by
  intro j u z;rw[Addr.add_lit,Nat.zero_add,World.cell?_alloc_mark,<-z];exact List.getElem?_toArray (xs:=tokC [t]) (i:=j)
 obtain⟨v',m,I,E,F,-⟩:=run_append_own (P:=Tryz.prog) (W.alloc (.cells #[.string t.n,.int .i64 t.l,.int .i64 t.a] 58)) y.heap.size 22 22 58 J _ 3 32 Tryz.underlying22 A B C D rfl (by decide) _ ts.length _ d.tok ⟨W.heap.size,0,none⟩ 1 1 (tokC [t]) rfl o
  (fun u z=>by simp[tokC]at z;rcases z with rfl | rfl | rfl <;> rfl) (by unfold maxLen;omega) (by omega) (by have:=d.bel.size;exact this)
 obtain⟨f,c,rfl,-⟩:=zh E
 have b:m.heap[h]?=some (.cells #[.slice s ts.length x,.string r,.int .i64 q,v] 25 (0,0)):=by
  rw[F.block h (Array.getElem?_eq_some_iff.1 d.box).1 (fun e=>qr ⟨_,d.box⟩ (qx d.tok e.symm) (by decide) rfl)];exact d.box
 refine⟨f,_,c,m,I,rfl,b,?_,?_,?_,g.new⟩
 ·rw[setCell_eq_setRow m h 0 _ 25 (0,0) _ b]
  have e:(#[.slice s ts.length x,.string r,.int .i64 q,v]:Array Value).setIfInBounds 0 (.slice f (ts.length+1) c)=#[.slice f (ts++[t]).length c,.string r,.int .i64 q,v]:=by simp
  rw[e];exact setRow_heap _ _ _ _ 25 _ b
 ·have G:m.ownsRow y.heap.size 58 3 (.slice f (ts++[t]).length c) (ts++[t]).length (tokC (ts++[t])):=by
   rw[qe1,List.length_append];exact E
  exact qh G (fun i A=>Below.heap_setCell _ _ _ _ (qr (qx G A) ⟨_,b⟩ (by decide)))
 ·exact(d.bel.grown F (d.bel.size) (fun k H=>(World.ownsRow.lt d.tok k H).1)).setCell (p:=⟨h,0,none⟩) g.new _
def gmOf (S:St):Gm:=⟨S.ts,S.st,S.ex,S.rs⟩
theorem qkp(w W:World)(B:Nat)(h:RHd)(S:St)(qs:List (Ru × Option Addr × Nat))(r:RD w W B h S qs):
  Calls Tryz.prog 110 #[.pointer (some ⟨B,0,none⟩)] W fun e W'=>∃h',e=.returned (gv h' (gmOf S))/\OwnG W' w.heap.size h' (gmOf S) qs/\Below W.heap.size W W':=by
 have z:(W.alloc (.cells #[.slice none 0 0,.string ⟨#[]⟩,.int .i64 0,.slice none 0 0] 25)).heap[W.heap.size]?=some (.cells #[.slice none 0 0,.string ⟨#[]⟩,.int .i64 0,.slice none 0 0] 25 (0,0)):=heap_alloc_new _ _;have C:Hid (RD w (W.alloc (.cells #[.slice none 0 0,.string ⟨#[]⟩,.int .i64 0,.slice none 0 0] 25)) B h S qs):=r.step (qb _ _);have L:Hid (Below W.heap.size W (W.alloc (.cells #[.slice none 0 0,.string ⟨#[]⟩,.int .i64 0,.slice none 0 0] 25))):=qb _ _;obtain⟨a2,a4⟩:=r.tlen;have b0:S.ts.length<=40:=r.ok.nt;clear r;go_enter Tryz.func110,Tryz.ntmps110
 go_upto_region 1 with fail
 generalize W.alloc (.cells #[.slice none 0 0,.string ⟨#[]⟩,.int .i64 0,.slice none 0 0] 25)=a at C z L ⊢
 obtain⟨l,I⟩:∃l,l=W.heap.size:=⟨_,rfl⟩
 rw[<-I]at z ⊢
 have G:Hid (W.heap.size<=l/\l<a.heap.size):=⟨Nat.le_of_eq I.symm,(Array.getElem?_eq_some_iff.1 z).1⟩
 have a0:Hid (a.heap[l]?=some (.cells #[.slice none 0 0,.string ⟨#[]⟩,.int .i64 0,.slice none 0 0] 25 (0,0))):=z;clear z I
 have c3:a.cell? ⟨B,3,none⟩=some (.string S.st):=by rw[qe C.out.box];rfl
 have c5:a.cell? ⟨B,5,none⟩=some (.int .i64 S.ex):=by rw[qe C.out.box];rfl
 have c6:a.cell? ⟨B,6,none⟩=some (.slice h.ra S.rs.length h.rc):=by rw[qe C.out.box];rfl
 have N:Hid (GT a (a.alloc (.cells #[.slice none 0 0,.string S.st,.int .i64 S.ex,.slice h.ra S.rs.length h.rc] 25)).drew a.heap.size none 0 [] S.st S.ex (.slice h.ra S.rs.length h.rc)):=GT.step (⟨heap_alloc_new _ _,World.ownsRow_nil _ _ _ _,qb _ _,Nat.le_refl _⟩:GT a (a.alloc (.cells #[.slice none 0 0,.string S.st,.int .i64 S.ex,.slice h.ra S.rs.length h.rc] 25)) a.heap.size none 0 [] S.st S.ex (.slice h.ra S.rs.length h.rc)) (qk _)
 go_cut [3] (fun s3 wd=>s3=.pointer (some ⟨a.heap.size,0,none⟩)/\Hid (GT a wd a.heap.size none 0 [] S.st S.ex (.slice h.ra S.rs.length h.rc)))
 case first =>
  go_region_held (fun w'=>w'.cell? ⟨B,3,none⟩=some (.string S.st)/\w'.cell? ⟨B,5,none⟩=some (.int .i64 S.ex)/\w'.cell? ⟨B,6,none⟩=some (.slice h.ra S.rs.length h.rc)) (go_keep) (fail)
  all_goals
   go_wp2_with fail;go_meet;exact⟨rfl,N⟩
 case rest =>
  obtain⟨rfl,M⟩:=hcut
  obtain⟨X,a9⟩:∃X,X=wc:=⟨_,rfl⟩
  subst wc;clear c3 c5 c6 N
  obtain⟨y,H⟩:∃y,y=a.heap.size:=⟨_,rfl⟩
  rw[<-H]at M ⊢
  have a7:Hid (l<y):=by rw[H];exact G.out.2
  clear H
  have c1:X.cell? ⟨B,1,none⟩=some (.slice h.ta S.ts.length h.tc):=by rw[qe (C.out.step M.out.bel).box];rfl
  obtain⟨wb,wo,wl,ta,tc,p,s⟩:=h;simp only at a2 a4 c1 M
  generalize en:S.ts.length=n at *
  have O:Hid (S.ts.length=n):=en;clear en;go_wp2_with fail
  go_loopg [24] n (fun kx s24 wr=>∃k:Nat,s24=.int .i64 k/\k<=n/\n - k<=kx/\Hid (∃b d,GT a wr y b d (S.ts.take k) S.st S.ex (.slice p S.rs.length s)))
  case atStart=>exact⟨0,rfl,Nat.zero_le _,by omega,(⟨none,0,M.out⟩:∃b d,GT a X y b d (S.ts.take 0) S.st S.ex (.slice p S.rs.length s))⟩
  case round =>
   obtain⟨k,rfl,hk,hg,J⟩:=hrel;clear M;obtain⟨b,d,o⟩:=J.out
   have g:(S.ts.take k).length=k:=by rw[List.length_take,O.out];omega
   by_cases a3:k<n
   ·have R:(k:Int)<(n:Int):=by omega
    obtain⟨t,ht⟩:∃t,S.ts[k]?=some t:=⟨S.ts[k]'(by rw[O.out];exact a3),List.getElem?_eq_getElem _⟩
    obtain⟨tb,bb,T,-,d0,d1,d2,d3,-⟩:=(C.out.step o.bel).tokAt ht;simp only at T;subst T;obtain⟨tn,tl,Z⟩:=t;simp only at d0 d1 d2;have P:=o.step (qb wr (.cells #[.string tn,.int .i64 tl,.int .i64 Z,.bool bb] 153))
    have e0:wr.cell? ⟨y,0,none⟩=some (.slice b k d):=by rw[qe o.box,g];rfl
    have a8:=qo e0 (.cells #[.string tn,.int .i64 tl,.int .i64 Z,.bool bb] 153);obtain⟨ao,m,c,w5,D,hm,A,Q⟩:=P.add (by rw[g];omega) ⟨tn,tl,Z⟩
    simp only[g,qt]at D hm
    have f0:w5.cell? ⟨y,0,none⟩=some (.slice b k d):=by rw[qe A,g];rfl
    have z0:w5.frozen? ⟨y,0,none⟩=false:=qi A 0
    have HF:Hid (∃b d,GT a (w5.setCell ⟨y,0,none⟩ (.slice ao m c)) y b d (S.ts.take (k+1)) S.st S.ex (.slice p S.rs.length s)):=by
     have e:S.ts.take (k+1)=S.ts.take k++[⟨tn,tl,Z⟩]:=zn ht;rw[e];exact⟨_,_,Q⟩
    clear o P Q A hm J g ht;go_wp2_with(at_builtin;refine Lib.wpList_append_run _ rfl _ _ _ _ rfl _ _ rfl rfl _ _ D ?_)
    go_roundg (n - (k+1))
    case measure=>omega
    case rel=>exact⟨k+1,by simp,by omega,Nat.le_refl _,HF⟩
   ·have R:¬(k:Int)<(n:Int):=by omega
    have U:S.ts.take k=S.ts:=List.take_of_length_le (by rw[O.out];omega)
    rw[U]at o;have t0:=o.bel.block l G.out.2;rw[a0.out]at t0;obtain⟨y0,y1,y2,y3,y4,y5,y6,y7⟩:=j1 t0;obtain⟨g0,g1,g2,g3,-⟩:=j1 o.box;have a6:Hid (GT a wr y b d S.ts S.st S.ex (.slice p S.rs.length s)):=o;rw[O.out]at g0
    have F:Hid (OwnG (set4 wr l (.slice b n d) (.string S.st) (.int .i64 S.ex) (.slice p S.rs.length s)) w.heap.size ⟨b,d,p,s⟩ (gmOf S) qs/\Below W.heap.size W (set4 wr l (.slice b n d) (.string S.st) (.int .i64 S.ex) (.slice p S.rs.length s))):=by
     have hr:=C.out.step o.bel;have a5:w.heap.size<=a.heap.size:=C.out.bel.size
     have f:Loc wr l 25:=⟨_,t0⟩
     have far:∀{V:World} {E k n:Nat} {v:Value} {cs:List Value} {j:Nat} {u:Value},Loc V l 25->E≠25->V.ownsRow w.heap.size E k v n cs->(V.setCell ⟨l,j,none⟩ u).ownsRow w.heap.size E k v n cs:=by
      intro V E k n v cs j u hl K Y;exact qh Y (fun i hi=>Below.heap_setCell _ _ _ _ (qr (qx Y hi) hl K))
     have x:∀{E k n':Nat} {v:Value} {cs:List Value},E≠25->wr.ownsRow w.heap.size E k v n' cs->(set4 wr l (.slice b n d) (.string S.st) (.int .i64 S.ex) (.slice p S.rs.length s)).ownsRow w.heap.size E k v n' cs:=by
      intro E k n' v cs K Y;exact far (((f.set _ _ _).set _ _ _).set _ _ _) K (far ((f.set _ _ _).set _ _ _) K (far (f.set _ _ _) K (far f K Y)))
     refine⟨⟨x (by decide) (zd o.tok a5),x (by decide) hr.rul,hr.map,fun q hq=>x (by decide) (hr.row q hq)⟩,?_⟩;exact yf _ _ _ _ (qd L.out o.bel) G.out.1
    unfold set4 at F;clear o J t0 g U
    have a1:Hid (gv ⟨b,d,p,s⟩ (gmOf S)=.agg #[.slice b n d,.string S.st,.int .i64 S.ex,.slice p S.rs.length s]):=by
     show _=_;unfold gv gmOf;simp only[O.out]
    generalize S.rs.length=rn at *
    generalize S.st=st at *
    generalize S.ex=ex at *
    go_wp2_with fail;refine bodyPost_ret (v:=.agg #[.slice b n d,.string st,.int .i64 ex,.slice p rn s]) (by simp[results,Tryz.results110,go_sem, *]) rfl ?_;exact⟨⟨b,d,p,s⟩,by rw[a1.out],F.out.1,F.out.2⟩
def st0 (ws:List Wd):St:=⟨ws,[],[],0,⟨#[]⟩,false,0,[]⟩
def kd (s:ByteArray):List Wd:=(scan (by8 s)).1.map (wdOf s)
def jr (s:ByteArray):Except Flt St :=
 if 2000<s.size then .error (6,0) else
 if (scan (by8 s)).2<0 then vh (st0 (kd s)) else
 match vh (st0 (kd (s.extract 0 (scan (by8 s)).2.toNat))) with
 | .error e=>.error e
 | .ok _=>.error (1,(scan (by8 s)).2)
theorem qik(s:ByteArray):∀a:List (Nat × Nat × Nat),jw s a=wdC (a.map (wdOf s))
 | []=>rfl
 | x :: r=>by
  have e:jw s (x :: r)=qae s x++jw s r:=rfl;rw[e,qik s r];rfl
theorem qfa{l:List UInt8}:∀(f i:Nat) (a:List (Nat × Nat × Nat)),i<=l.length->l.length - i<f->(kr f l i a).2=-1\/∃m:Nat,(kr f l i a).2=(m:Int)
 | 0,_,_,_,h=>by omega
 | f+1,i,a,h,hf=>by
  by_cases c:i<l.length
  ·by_cases b:(wordP l i).1=0
   ·rw[qby c b];exact .inr ⟨i,rfl⟩
   ·rw[y8 c b];have d:=yg c;have g:=qbs (l:=l) (i:=(wordP l i).2) d.2.1;exact qfa f _ _ g.2 (by have:=d.2.2.1 b;omega)
  ·rw[qbx (by omega)];exact .inl rfl
theorem qne(l:List UInt8):(scan l).2=-1\/∃m:Nat,(scan l).2=(m:Int) :=
 qfa _ _ _ (qbs (Nat.zero_le _)).2 (by omega)
theorem qqm(s:ByteArray)(m:Nat):by8 (s.extract 0 m)=(by8 s).take m:=by
 rw[z9];unfold part;rw[List.drop_zero,Nat.sub_zero]
theorem qlr{s:ByteArray}{m:Nat}(h:(scan (by8 s)).2=(m:Int)):m<s.size/\(scan (by8 (s.extract 0 m))).2=-1:=by
 have a:=qot h;rw[qqm s m];exact⟨by rw[<-qy];exact a.1,a.2⟩
theorem RD.init{w:World}{b:Nat}{s:ByteArray}{v:Value}(h:IsW w b s v (scan (by8 s)).1)(i:(scan (by8 s)).2=-1):
  ∃hd:RHd,v=.slice (some ⟨hd.wb,hd.wo,none⟩) (st0 (kd s)).ws.length hd.wc/\hd.ta=none/\hd.tc=0/\hd.ra=none/\hd.rc=0 /\
   RD w (w.alloc (.cells (rdC hd (st0 (kd s))) 139)) w.heap.size hd (st0 (kd s)) []:=by
 have c:Ends (kd s):=qor i;have k:=c.pos;have d:(kd s).length=(scan (by8 s)).1.length:=List.length_map _;unfold IsW at h
 obtain⟨g,a,rfl⟩:∃g a,v=.slice (some ⟨g,0,none⟩) (scan (by8 s)).1.length a:=by
  rcases h.2 with ⟨_,h0⟩ | ⟨g,a,cur,hv,_⟩
  ·omega
  ·exact⟨g,a,hv⟩
 refine⟨⟨g,0,a,none,0,none,0⟩,by rw[<-d];rfl,rfl,rfl,rfl,rfl,?_⟩
 have f:=Row.of_own h;rw[qik,<-d]at f;exact⟨heap_alloc_new _ _,f,World.ownsRow_nil _ _ _ _,World.ownsRow_nil _ _ _ _,rfl,fun q j=>(by cases j),qb _ _,Nat.le_refl _,⟨c,Nat.zero_le _,rfl,Nat.zero_le _,Nat.zero_le _⟩⟩
theorem qgz:∀{f:Nat} {S:St} {g:Flt},x8 f S=.error g->g.1≠0
 | 0,S,g,h=>by simp[x8]at h
 | f+1,S,g,h=>by
  unfold x8 at h
  split at h
  ·cases h
  ·split at h
   ·rename_i e he
    cases h
    exact qig he
   ·exact qgz h
theorem qg0:∀{f:Nat} {S:St} {g:Flt},x9 f S=.error g->g.1≠0
 | 0,S,g,h=>by simp[x9]at h
 | f+1,S,g,h=>by
  unfold x9 at h
  split at h
  ·cases h
  ·split at h
   ·rename_i e he
    cases h
    exact qgy he
   ·exact qg0 h
theorem qil{S:St}{g:Flt}(h:vh S=.error g):g.1≠0:=by
 unfold vh at h
 split at h
 ·rename_i e he
  cases h
  exact qgz he
 ·exact qg0 h
def qa7 (bad:Int) (R:Except Flt St):Except Flt St:=if bad<0 then R else match R with | .error e=>.error e | .ok _=>.error (1,bad)
def qrv (s:ByteArray) (w:World) (e:Ending) (w':World):Prop :=
 Below w.heap.size w w' /\
 match jr s with
 | .error f=>e=.returned (.tuple #[gv ⟨none,0,none,0⟩ ⟨[],⟨#[]⟩,0,[]⟩,fv f])
 | .ok S=>∃h qs,e=.returned (.tuple #[gv h (gmOf S),fv (0,0)])/\OwnG w' w.heap.size h (gmOf S) qs
theorem OwnG.off{w:World}{c:Nat}{h:Hd}{G:Gm}{qs:List (Ru × Option Addr × Nat)}{b j T:Nat}{u:Value}(o:OwnG w c h G qs)(l:Loc w b T)(d:T≠58/\T≠55/\T≠9):OwnG (w.setCell ⟨b,j,none⟩ u) c h G qs:=by
 have a:∀{E k n:Nat} {v:Value} {cs:List Value},w.ownsRow c E k v n cs->E≠T->(w.setCell ⟨b,j,none⟩ u).ownsRow c E k v n cs:=by
  intro E k n v cs f g;exact qh f (fun i m=>Below.heap_setCell _ _ _ _ (qr (qx f m) l g))
 exact⟨a o.tok (Ne.symm d.1),a o.rul (Ne.symm d.2.1),o.map,fun q p=>a (o.row q p) (Ne.symm d.2.2)⟩
theorem qg1(s:ByteArray)(w:World)(hs:s.size<=1048576):Calls Tryz.prog 100 #[.string s] w fun e w'=>qrv s w e w':=by
 have d2:(s.size:Int)<=1048576:=by omega
 have U:((w.alloc (.cells #[.slice none 0 0,.string ⟨#[]⟩,.int .i64 0,.slice none 0 0] 25)).alloc (.cells #[.int .i64 0,.int .i64 0] 125)).heap[w.heap.size+1]?=some (.cells #[.int .i64 0,.int .i64 0] 125 (0,0)):=by
  have:=heap_alloc_new (w.alloc (.cells #[.slice none 0 0,.string ⟨#[]⟩,.int .i64 0,.slice none 0 0] 25)) (.cells #[.int .i64 0,.int .i64 0] 125)
  rwa [qt]at this
 have T:((w.alloc (.cells #[.slice none 0 0,.string ⟨#[]⟩,.int .i64 0,.slice none 0 0] 25)).alloc (.cells #[.int .i64 0,.int .i64 0] 125)).heap[w.heap.size]?=some (.cells #[.slice none 0 0,.string ⟨#[]⟩,.int .i64 0,.slice none 0 0] 25 (0,0)):=qf (qb _ _) (heap_alloc_new _ _);have HB:Hid (Below w.heap.size w ((w.alloc (.cells #[.slice none 0 0,.string ⟨#[]⟩,.int .i64 0,.slice none 0 0] 25)).alloc (.cells #[.int .i64 0,.int .i64 0] 125))):=qd (qb _ _) (qb _ _);go_enter Tryz.func100,Tryz.ntmps100
 go_upto_region 1 with fail
 generalize (w.alloc (.cells #[.slice none 0 0,.string ⟨#[]⟩,.int .i64 0,.slice none 0 0] 25)).alloc (.cells #[.int .i64 0,.int .i64 0] 125)=M at T U HB ⊢
 obtain⟨j,b4⟩:∃j,j=w.heap.size:=⟨_,rfl⟩
 obtain⟨d,b5⟩:∃d,d=w.heap.size+1:=⟨_,rfl⟩
 rw[<-b5]at U ⊢;rw[<-b4]at T ⊢
 have c:Hid (w.heap.size<=j/\w.heap.size<=d/\j≠d):=⟨by omega,by omega,by omega⟩
 have d1:j≠d:=by omega
 have c8:d≠j:=by omega
 clear b4 b5
 by_cases hl:2000<s.size
 ·have c5:(s.size:Int) > 2000:=by omega
  obtain⟨y0,y1,y2,y3,y4,y5,y6,y7⟩:=j1 T;obtain⟨q3,q4,z3,z4⟩:=zg U;go_wp2_with fail;refine bodyPost_ret (v:=.tuple #[.agg #[.slice none 0 0,.string ⟨#[]⟩,.int .i64 0,.slice none 0 0],.agg #[.int .i64 6,.int .i64 0]]) (by simp[results,Tryz.results100,go_sem, *]) rfl ?_;refine⟨?_,?_⟩
  ·exact((yf _ _ _ _ HB.out c.out.1).setCell (p:=⟨d,0,none⟩) c.out.2.1 _).setCell (p:=⟨d,1,none⟩) c.out.2.1 _
  ·have e:jr s=.error (6,0):=by unfold jr;rw[if_pos hl]
   rw[e];rfl
 ·have c5:¬(s.size:Int) > 2000:=by omega
  have P:Hid (Calls Tryz.prog 108 #[.string s] M fun e w'=>qap s M w' e):=qbm s M hs
  have F:Hid (M.heap[j]?=some (.cells #[.slice none 0 0,.string ⟨#[]⟩,.int .i64 0,.slice none 0 0] 25 (0,0))/\M.heap[d]?=some (.cells #[.int .i64 0,.int .i64 0] 125 (0,0))):=⟨T,U⟩
  have HL:Hid (¬2000<s.size):=hl;clear T U hl;go_wp2_with fail;refine P.out.mono ?_;rintro e V ⟨v,rfl,S,hB⟩
  have HV:Hid (IsW V M.heap.size s v (scan (by8 s)).1/\Below M.heap.size M V):=⟨S,hB⟩
  clear S hB P;generalize a2:(scan (by8 s)).2=C;have E:Hid ((scan (by8 s)).2=C):=a2;clear a2
  rcases qne (by8 s) with hf | ⟨m,hf⟩
  ·have a4:C=-1:=by rw[<-E.out];exact hf
   have HF:Hid (∃t r,IsW V r t v (scan (by8 t)).1/\(scan (by8 t)).2=-1/\Below M.heap.size M V/\jr s=qa7 C (vh (st0 (kd t)))):=by
    refine⟨s,_,HV.out.1,hf,HV.out.2,?_⟩;unfold jr qa7;rw[if_neg HL.out,if_pos (by rw[hf];decide),if_pos (by omega)]
   have b9:¬(C ≥ 0):=by omega
   have a3:C<0:=by omega
   clear hf a4 HV E HL
   go_upto_region 6 with fail
   obtain⟨t,r,S,a1,n,a0⟩:=HF.out;obtain⟨⟨J,L,K,ta,tc,ra,rc⟩,rfl,h1,h2,h3,h4,Z⟩:=RD.init S a1;simp only at h1 h2 h3 h4;subst h1 h2 h3 h4
   obtain⟨R,hR⟩:∃R,vh (st0 (kd t))=R:=⟨_,rfl⟩
   have Q:Hid (Calls Tryz.prog 109 #[.pointer (some ⟨V.heap.size,0,none⟩)] (V.alloc (.cells #[.slice (some ⟨J,L,none⟩) (st0 (kd t)).ws.length K,.slice none 0 0,.int .i64 0,.string ⟨#[]⟩,.bool false,.int .i64 0,.slice none 0 0] 139)) fun e W'=>DidQ V (V.alloc (.cells #[.slice (some ⟨J,L,none⟩) (st0 (kd t)).ws.length K,.slice none 0 0,.int .i64 0,.string ⟨#[]⟩,.bool false,.int .i64 0,.slice none 0 0] 139)) V.heap.size R e W'):=by rw[<-hR];exact qep _ _ _ _ _ _ Z
   have k:Hid (jr s=qa7 C R):=by rw[<-hR];exact a0
   have A:Hid (∀g,R=.error g->g.1≠0):=fun g hg=>qil (hR.trans hg)
   have h:=qb V (.cells #[.slice (some ⟨J,L,none⟩) (st0 (kd t)).ws.length K,.slice none 0 0,.int .i64 0,.string ⟨#[]⟩,.bool false,.int .i64 0,.slice none 0 0] 139)
   have b:Hid (Below w.heap.size w V/\V.heap[j]?=some (.cells #[.slice none 0 0,.string ⟨#[]⟩,.int .i64 0,.slice none 0 0] 25 (0,0))/\V.heap[d]?=some (.cells #[.int .i64 0,.int .i64 0] 125 (0,0))):=⟨qd HB.out n,qf n F.out.1,qf n F.out.2⟩
   have z:Hid ((V.alloc (.cells #[.slice (some ⟨J,L,none⟩) (st0 (kd t)).ws.length K,.slice none 0 0,.int .i64 0,.string ⟨#[]⟩,.bool false,.int .i64 0,.slice none 0 0] 139)).heap[j]?=some (.cells #[.slice none 0 0,.string ⟨#[]⟩,.int .i64 0,.slice none 0 0] 25 (0,0))/\(V.alloc (.cells #[.slice (some ⟨J,L,none⟩) (st0 (kd t)).ws.length K,.slice none 0 0,.int .i64 0,.string ⟨#[]⟩,.bool false,.int .i64 0,.slice none 0 0] 139)).heap[d]?=some (.cells #[.int .i64 0,.int .i64 0] 125 (0,0))):=⟨qf h b.out.2.1,qf h b.out.2.2⟩
   clear HF S a1 a0 Z hR n F HB h
   go_upto_region 7 with fail
   generalize (st0 (kd t)).ws.length=wn at *
   generalize V.alloc (.cells #[.slice (some ⟨J,L,none⟩) wn K,.slice none 0 0,.int .i64 0,.string ⟨#[]⟩,.bool false,.int .i64 0,.slice none 0 0] 139)=X0 at *
   go_wp2_with fail;refine Q.out.mono ?_;rintro e X ⟨a5,B,I,rfl,x,hk,hS⟩
   have f:Hid (RD V X V.heap.size a5 B I/\(∀S1,R=.ok S1->B=S1)/\X.heap[j]?=some (.cells #[.slice none 0 0,.string ⟨#[]⟩,.int .i64 0,.slice none 0 0] 25 (0,0))/\X.heap[d]?=some (.cells #[.int .i64 0,.int .i64 0] 125 (0,0))):=⟨x,hS,hk.loc _ _ _ z.out.1 (by decide) (by decide) (by decide) (by decide),hk.loc _ _ _ z.out.2 (by decide) (by decide) (by decide) (by decide)⟩
   clear x hk hS Q z
   cases R with
   | error g =>
    obtain⟨i,u⟩:=g;have D:i≠0:=A.out _ rfl
    have c3:(i == 0)=false:=by simpa using D
    have c4:(i != 0)=true:=by simpa using D
    have HE:Hid (jr s=.error (i,u)):=by
     show _=_;rw[k.out];unfold qa7
     split <;> rfl
    rw[show fv (kf (.error (i,u):Except Flt St))=.agg #[.int .i64 i,.int .i64 u] from rfl];clear k A D;have h:=qb X (.cells #[.int .i64 i,.int .i64 u] 125);have b0:=heap_alloc_new X (.cells #[.int .i64 i,.int .i64 u] 125);have N:=qf h f.out.2.2.1;have O:=qf h f.out.2.2.2;obtain⟨y0,y1,y2,y3,y4,y5,y6,y7⟩:=j1 N;obtain⟨q3,q4,z3,z4⟩:=zg O;obtain⟨p0,p1,p2,p3⟩:=zg b0
    have G:X.heap.size≠j:=fun e=>by have:=(Array.getElem?_eq_some_iff.1 f.out.2.2.1).1;omega
    have H:X.heap.size≠d:=fun e=>by have:=(Array.getElem?_eq_some_iff.1 f.out.2.2.2).1;omega
    clear h b0 N O;have a:Hid (Below w.heap.size w (X.alloc (.cells #[.int .i64 i,.int .i64 u] 125))):=qd (qd b.out.1 f.out.1.bel) (qb _ _)
    go_upto_region 11 with fail
    generalize X.alloc (.cells #[.int .i64 i,.int .i64 u] 125)=X1 at *
    generalize X.heap.size=l at *
    clear f b;go_region;go_wp2_with fail;refine bodyPost_ret (v:=.tuple #[.agg #[.slice none 0 0,.string ⟨#[]⟩,.int .i64 0,.slice none 0 0],.agg #[.int .i64 i,.int .i64 u]]) (by simp[results,Tryz.results100,go_sem, *]) rfl ?_;refine⟨?_,by rw[HE.out];rfl⟩
    exact qd (((yf (.slice none 0 0) (.string ⟨#[]⟩) (.int .i64 0) (.slice none 0 0) a.out c.out.1).setCell (p:=⟨d,0,none⟩) c.out.2.1 _).setCell (p:=⟨d,1,none⟩) c.out.2.1 _) (qk _)
   | ok S1 =>
    have b7:B=S1:=f.out.2.1 S1 rfl;subst b7
    have HE:Hid (jr s=.ok B):=by
     show _=_;rw[k.out];unfold qa7;rw[if_pos a3]
    rw[show fv (kf (.ok B:Except Flt St))=.agg #[.int .i64 0,.int .i64 0] from rfl];have h:=qb X (.cells #[.int .i64 0,.int .i64 0] 125);obtain⟨p0,p1,p2,p3⟩:=zg (heap_alloc_new X (.cells #[.int .i64 0,.int .i64 0] 125));have HG:Hid (Calls Tryz.prog 110 #[.pointer (some ⟨V.heap.size,0,none⟩)] (X.alloc (.cells #[.int .i64 0,.int .i64 0] 125)) fun e W'=>∃h',e=.returned (gv h' (gmOf B))/\OwnG W' V.heap.size h' (gmOf B) I/\Below (X.alloc (.cells #[.int .i64 0,.int .i64 0] 125)).heap.size (X.alloc (.cells #[.int .i64 0,.int .i64 0] 125)) W'):=qkp _ _ _ _ _ _ (f.out.1.step h)
    have a:Hid (Below w.heap.size w (X.alloc (.cells #[.int .i64 0,.int .i64 0] 125))/\(X.alloc (.cells #[.int .i64 0,.int .i64 0] 125)).heap[j]?=some (.cells #[.slice none 0 0,.string ⟨#[]⟩,.int .i64 0,.slice none 0 0] 25 (0,0))/\(X.alloc (.cells #[.int .i64 0,.int .i64 0] 125)).heap[d]?=some (.cells #[.int .i64 0,.int .i64 0] 125 (0,0))/\w.heap.size<=V.heap.size):=⟨qd (qd b.out.1 f.out.1.bel) h,qf h f.out.2.2.1,qf h f.out.2.2.2,b.out.1.size⟩
    clear h A k f b;go_wp2_with fail;refine HG.out.mono ?_;rintro e Y ⟨⟨a8,a9,a6,a7⟩,rfl,hO,hB⟩;have N:=qf hB a.out.2.1;have O:=qf hB a.out.2.2.1
    have HY:Hid (OwnG Y w.heap.size ⟨a8,a9,a6,a7⟩ (gmOf B) I/\Below w.heap.size w Y/\Loc Y j 25/\Loc Y d 125):=⟨⟨zd hO.tok a.out.2.2.2,zd hO.rul a.out.2.2.2,hO.map,fun q hq=>zd (hO.row q hq) a.out.2.2.2⟩,qd a.out.1 hB,⟨_,N⟩,⟨_,O⟩⟩
    obtain⟨y0,y1,y2,y3,y4,y5,y6,y7⟩:=j1 N;obtain⟨q3,q4,z3,z4⟩:=zg O;clear hO hB N O HG a p0 p1 p2 p3;unfold gv gmOf;simp only;go_wp2_with fail;refine bodyPost_ret (v:=.tuple #[.agg #[.slice a8 B.ts.length a9,.string B.st,.int .i64 B.ex,.slice a6 B.rs.length a7],.agg #[.int .i64 0,.int .i64 0]]) (by simp[results,Tryz.results100,go_sem, *]) rfl ?_;obtain⟨o,hb,l1,l2⟩:=HY.out;refine⟨((yf _ _ _ _ hb c.out.1).setCell (p:=⟨d,0,none⟩) c.out.2.1 _).setCell (p:=⟨d,1,none⟩) c.out.2.1 _,?_⟩;rw[HE.out];refine⟨⟨a8,a9,a6,a7⟩,I,rfl,?_⟩;exact(((((o.off l1 (by decide)).off (l1.set _ _ _) (by decide)).off ((l1.set _ _ _).set _ _ _) (by decide)).off (((l1.set _ _ _).set _ _ _).set _ _ _) (by decide)).off ((((l2.set _ _ _).set _ _ _).set _ _ _).set _ _ _) (by decide)).off (((((l2.set _ _ _).set _ _ _).set _ _ _).set _ _ _).set _ _ _) (by decide)
  ·have a4:C=(m:Int):=by rw[<-E.out];exact hf
   have hm:=qlr hf;have c9:m<s.size:=hm.1
   have b6:(s.extract 0 m).size<=1048576:=by rw[ByteArray.size_extract];omega
   have P:Hid (Calls Tryz.prog 108 #[.string (s.extract 0 m)] V fun e w'=>qap (s.extract 0 m) V w' e):=qbm (s.extract 0 m) V b6
   have HM:Hid ((scan (by8 (s.extract 0 m))).2=-1/\(scan (by8 s)).2=(m:Int)):=⟨hm.2,hf⟩
   have b9:(m:Int) ≥ 0:=by omega
   have d0:(m:Int)<=(s.size:Int):=by omega
   subst a4;clear hm hf b6;go_wp2_with fail;refine P.out.mono ?_;rintro e y ⟨v2,rfl,S,hB⟩
   have HF:Hid (∃t r,IsW y r t v2 (scan (by8 t)).1/\(scan (by8 t)).2=-1/\Below M.heap.size M y/\jr s=qa7 (m:Int) (vh (st0 (kd t)))):=by
    refine⟨s.extract 0 m,_,S,HM.out.1,qd HV.out.2 hB,?_⟩;unfold jr qa7;rw[if_neg HL.out,HM.out.2,if_neg (by omega),if_neg (by omega)];rfl
   have a3:¬((m:Int)<0):=by omega
   clear S hB P HM HV E HL
   go_upto_region 6 with fail
   obtain⟨t,r,S,a1,n,a0⟩:=HF.out;obtain⟨⟨J,L,K,ta,tc,ra,rc⟩,rfl,h1,h2,h3,h4,Z⟩:=RD.init S a1;simp only at h1 h2 h3 h4;subst h1 h2 h3 h4
   obtain⟨R,hR⟩:∃R,vh (st0 (kd t))=R:=⟨_,rfl⟩
   have Q:Hid (Calls Tryz.prog 109 #[.pointer (some ⟨y.heap.size,0,none⟩)] (y.alloc (.cells #[.slice (some ⟨J,L,none⟩) (st0 (kd t)).ws.length K,.slice none 0 0,.int .i64 0,.string ⟨#[]⟩,.bool false,.int .i64 0,.slice none 0 0] 139)) fun e W'=>DidQ y (y.alloc (.cells #[.slice (some ⟨J,L,none⟩) (st0 (kd t)).ws.length K,.slice none 0 0,.int .i64 0,.string ⟨#[]⟩,.bool false,.int .i64 0,.slice none 0 0] 139)) y.heap.size R e W'):=by rw[<-hR];exact qep _ _ _ _ _ _ Z
   have k:Hid (jr s=qa7 (m:Int) R):=by rw[<-hR];exact a0
   have A:Hid (∀g,R=.error g->g.1≠0):=fun g hg=>qil (hR.trans hg)
   have h:=qb y (.cells #[.slice (some ⟨J,L,none⟩) (st0 (kd t)).ws.length K,.slice none 0 0,.int .i64 0,.string ⟨#[]⟩,.bool false,.int .i64 0,.slice none 0 0] 139)
   have b:Hid (Below w.heap.size w y/\y.heap[j]?=some (.cells #[.slice none 0 0,.string ⟨#[]⟩,.int .i64 0,.slice none 0 0] 25 (0,0))/\y.heap[d]?=some (.cells #[.int .i64 0,.int .i64 0] 125 (0,0))):=⟨qd HB.out n,qf n F.out.1,qf n F.out.2⟩
   have z:Hid ((y.alloc (.cells #[.slice (some ⟨J,L,none⟩) (st0 (kd t)).ws.length K,.slice none 0 0,.int .i64 0,.string ⟨#[]⟩,.bool false,.int .i64 0,.slice none 0 0] 139)).heap[j]?=some (.cells #[.slice none 0 0,.string ⟨#[]⟩,.int .i64 0,.slice none 0 0] 25 (0,0))/\(y.alloc (.cells #[.slice (some ⟨J,L,none⟩) (st0 (kd t)).ws.length K,.slice none 0 0,.int .i64 0,.string ⟨#[]⟩,.bool false,.int .i64 0,.slice none 0 0] 139)).heap[d]?=some (.cells #[.int .i64 0,.int .i64 0] 125 (0,0))):=⟨qf h b.out.2.1,qf h b.out.2.2⟩
   clear HF S a1 a0 Z hR n F HB h
   go_upto_region 7 with fail
   generalize (st0 (kd t)).ws.length=wn at *
   generalize y.alloc (.cells #[.slice (some ⟨J,L,none⟩) wn K,.slice none 0 0,.int .i64 0,.string ⟨#[]⟩,.bool false,.int .i64 0,.slice none 0 0] 139)=X0 at *
   go_wp2_with fail;refine Q.out.mono ?_;rintro e X ⟨a5,B,I,rfl,x,hk,hS⟩
   have f:Hid (RD y X y.heap.size a5 B I/\(∀S1,R=.ok S1->B=S1)/\X.heap[j]?=some (.cells #[.slice none 0 0,.string ⟨#[]⟩,.int .i64 0,.slice none 0 0] 25 (0,0))/\X.heap[d]?=some (.cells #[.int .i64 0,.int .i64 0] 125 (0,0))):=⟨x,hS,hk.loc _ _ _ z.out.1 (by decide) (by decide) (by decide) (by decide),hk.loc _ _ _ z.out.2 (by decide) (by decide) (by decide) (by decide)⟩
   clear x hk hS Q z
   cases R with
   | error g =>
    obtain⟨i,u⟩:=g;have D:i≠0:=A.out _ rfl
    have c3:(i == 0)=false:=by simpa using D
    have c4:(i != 0)=true:=by simpa using D
    have HE:Hid (jr s=.error (i,u)):=by
     show _=_;rw[k.out];unfold qa7
     split <;> rfl
    rw[show fv (kf (.error (i,u):Except Flt St))=.agg #[.int .i64 i,.int .i64 u] from rfl];clear k A D;have h:=qb X (.cells #[.int .i64 i,.int .i64 u] 125);have b0:=heap_alloc_new X (.cells #[.int .i64 i,.int .i64 u] 125);have N:=qf h f.out.2.2.1;have O:=qf h f.out.2.2.2;obtain⟨y0,y1,y2,y3,y4,y5,y6,y7⟩:=j1 N;obtain⟨q3,q4,z3,z4⟩:=zg O;obtain⟨p0,p1,p2,p3⟩:=zg b0
    have G:X.heap.size≠j:=fun e=>by have:=(Array.getElem?_eq_some_iff.1 f.out.2.2.1).1;omega
    have H:X.heap.size≠d:=fun e=>by have:=(Array.getElem?_eq_some_iff.1 f.out.2.2.2).1;omega
    clear h b0 N O;have a:Hid (Below w.heap.size w (X.alloc (.cells #[.int .i64 i,.int .i64 u] 125))):=qd (qd b.out.1 f.out.1.bel) (qb _ _)
    go_upto_region 11 with fail
    generalize X.alloc (.cells #[.int .i64 i,.int .i64 u] 125)=X1 at *
    generalize X.heap.size=l at *
    clear f b;go_region;go_wp2_with fail;refine bodyPost_ret (v:=.tuple #[.agg #[.slice none 0 0,.string ⟨#[]⟩,.int .i64 0,.slice none 0 0],.agg #[.int .i64 i,.int .i64 u]]) (by simp[results,Tryz.results100,go_sem, *]) rfl ?_;refine⟨?_,by rw[HE.out];rfl⟩
    exact qd (((yf (.slice none 0 0) (.string ⟨#[]⟩) (.int .i64 0) (.slice none 0 0) a.out c.out.1).setCell (p:=⟨d,0,none⟩) c.out.2.1 _).setCell (p:=⟨d,1,none⟩) c.out.2.1 _) (qk _)
   | ok S1 =>
    have HE:Hid (jr s=.error (1,(m:Int))):=by
     show _=_;rw[k.out];unfold qa7;rw[if_neg (by omega)]
    rw[show fv (kf (.ok S1:Except Flt St))=.agg #[.int .i64 0,.int .i64 0] from rfl];have h:=qb X (.cells #[.int .i64 0,.int .i64 0] 125);have b0:=heap_alloc_new X (.cells #[.int .i64 0,.int .i64 0] 125);obtain⟨p0,p1,p2,p3⟩:=zg b0
    have G:j≠X.heap.size:=fun e=>by have:=(Array.getElem?_eq_some_iff.1 f.out.2.2.1).1;omega
    have H:d≠X.heap.size:=fun e=>by have:=(Array.getElem?_eq_some_iff.1 f.out.2.2.2).1;omega
    have a:Hid (Below w.heap.size w (X.alloc (.cells #[.int .i64 0,.int .i64 0] 125))/\(X.alloc (.cells #[.int .i64 0,.int .i64 0] 125)).heap[j]?=some (.cells #[.slice none 0 0,.string ⟨#[]⟩,.int .i64 0,.slice none 0 0] 25 (0,0))/\(X.alloc (.cells #[.int .i64 0,.int .i64 0] 125)).heap[d]?=some (.cells #[.int .i64 0,.int .i64 0] 125 (0,0))/\w.heap.size<=X.heap.size):=⟨qd (qd b.out.1 f.out.1.bel) h,qf h f.out.2.2.1,qf h f.out.2.2.2,(qd b.out.1 f.out.1.bel).size⟩
    clear h A k f b
    go_upto_region 9 with fail
    generalize X.alloc (.cells #[.int .i64 0,.int .i64 0] 125)=X1 at *
    generalize X.heap.size=l at *
    have b8:Hid (Below w.heap.size w ((X1.setCell ⟨l,0,none⟩ (.int .i64 1)).setCell ⟨l,1,none⟩ (.int .i64 (m:Int)))):=(a.out.1.setCell (p:=⟨l,0,none⟩) a.out.2.2.2 _).setCell (p:=⟨l,1,none⟩) a.out.2.2.2 _
    have N:((X1.setCell ⟨l,0,none⟩ (.int .i64 1)).setCell ⟨l,1,none⟩ (.int .i64 (m:Int))).heap[j]?=some (.cells #[.slice none 0 0,.string ⟨#[]⟩,.int .i64 0,.slice none 0 0] 25 (0,0)):=by
     rw[Below.heap_setCell _ _ _ _ G,Below.heap_setCell _ _ _ _ G];exact a.out.2.1
    have O:((X1.setCell ⟨l,0,none⟩ (.int .i64 1)).setCell ⟨l,1,none⟩ (.int .i64 (m:Int))).heap[d]?=some (.cells #[.int .i64 0,.int .i64 0] 125 (0,0)):=by
     rw[Below.heap_setCell _ _ _ _ H,Below.heap_setCell _ _ _ _ H];exact a.out.2.2.1
    have b3:((X1.setCell ⟨l,0,none⟩ (.int .i64 1)).setCell ⟨l,1,none⟩ (.int .i64 (m:Int))).heap[l]?=some (.cells #[.int .i64 1,.int .i64 (m:Int)] 125 (0,0)):=by
     have e1:(X1.setCell ⟨l,0,none⟩ (.int .i64 1)).heap[l]?=some (.cells #[.int .i64 1,.int .i64 0] 125 (0,0)):=by
      rw[setCell_eq_setRow X1 l 0 _ 125 (0,0) _ b0];exact setRow_heap _ _ _ _ 125 _ b0
     rw[setCell_eq_setRow _ l 1 _ 125 (0,0) _ e1];exact setRow_heap _ _ _ _ 125 _ e1
    go_upto_region 10 with fail
    clear p0 p1 p2 p3 b0 a
    generalize (X1.setCell ⟨l,0,none⟩ (.int .i64 1)).setCell ⟨l,1,none⟩ (.int .i64 (m:Int))=X2 at *
    obtain⟨p0,p1,p2,p3⟩:=zg b3;obtain⟨y0,y1,y2,y3,y4,y5,y6,y7⟩:=j1 N;obtain⟨q3,q4,z3,z4⟩:=zg O;have c6:=G.symm;have c7:=H.symm;clear N O b3 G H
    go_upto_region 11 with fail
    go_region;go_wp2_with fail;refine bodyPost_ret (v:=.tuple #[.agg #[.slice none 0 0,.string ⟨#[]⟩,.int .i64 0,.slice none 0 0],.agg #[.int .i64 1,.int .i64 (m:Int)]]) (by simp[results,Tryz.results100,go_sem, *]) rfl ?_;refine⟨?_,by rw[HE.out];rfl⟩
    exact qd (((yf (.slice none 0 0) (.string ⟨#[]⟩) (.int .i64 0) (.slice none 0 0) b8.out c.out.1).setCell (p:=⟨d,0,none⟩) c.out.2.1 _).setCell (p:=⟨d,1,none⟩) c.out.2.1 _) (qk _)
def tx1:ByteArray:=⟨#[37,108,101,102,116,32,80,32,37,108,101,102,116,32,77,32,37,116,111,107,101,110,32,78,32,37,37,32,101,58,32,101,32,80,32,101,32,124,32,101,32,77,32,101,32,124,32,78,59]⟩
def tx2:ByteArray:=⟨#[37,116,111,107,101,110,32,65,32,65,32,37,37]⟩
def tx3:ByteArray:=⟨#[37,37,32,101,32,58,32,124,32]⟩
def qg2 (R:Except Flt St) (k a:Int):Bool:=match R with | .error g=>g.1 == k && g.2 == a | .ok _=>false
def qnf (R:Except Flt St):Bool:=match R with | .error _=>false | .ok S=>S.ts.length == 3 && S.rs.length == 3 && (tkAt S.ts 0).n.toList == [80]
theorem qqn{R:Except Flt St}{k a:Int}(h:qg2 R k a=true):R=.error (k,a):=by
 unfold qg2 at h
 split at h
 ·rename_i g;simp only[Bool.and_eq_true,beq_iff_eq]at h;obtain⟨b,c⟩:=g;simp only at h;rw[h.1,h.2]
 ·cases h
theorem qqo{R:Except Flt St}(h:qnf R=true):∃S,R=.ok S/\S.ts.length=3/\S.rs.length=3/\(tkAt S.ts 0).n.toList=[80]:=by
 unfold qnf at h
 split at h
 ·cases h
 ·rename_i S;simp only[Bool.and_eq_true,beq_iff_eq]at h;exact⟨S,rfl,h.1.1,h.1.2,h.2⟩
theorem qov:qnf (jr tx1)=true:=by kernel_rfl
theorem qow:qg2 (jr tx2) 7 9=true:=by kernel_rfl
theorem qox:qg2 (jr tx3) 1 9=true:=by kernel_rfl
theorem qi8(w:World)(d:Pow w):Calls Tryz.prog 101 #[] w fun e a=>e=.returned (.bool true)/\Below w.heap.size w a:=by
 have H:Hid (Calls Tryz.prog 111 #[] w fun e a=>e=.returned (.bool true)/\Below w.heap.size w a):=qj2 w d;go_enter Tryz.func101,Tryz.ntmps101;go_wp2_with fail;refine H.out.mono ?_;rintro e V ⟨rfl,b⟩;have c:Hid (Below w.heap.size w V):=b;clear b;go_wp2_with fail;go_ret;exact⟨rfl,c.out⟩
theorem qoy(w:World):Calls Tryz.prog 100 #[.string tx1] w fun e l=>∃a d C r j k p,e=.returned (.tuple #[.agg #[.slice (some ⟨a,0,none⟩) 3 d,.string C,.int .i64 r,.slice j 3 k],.agg #[.int .i64 0,.int .i64 0]])/\Below w.heap.size w l/\l.cell? ⟨a,0,none⟩=some (.string p)/\p.toList=[80]/\3<=d/\d<=9223372036854775807:=by
 obtain⟨S,v,s,u,i⟩:=qqo qov;refine(qg1 tx1 w (by decide)).mono ?_;rintro e l ⟨x,h⟩;rw[v]at h;obtain⟨⟨D,d,j,k⟩,qs,rfl,z⟩:=h;have f:=z.tok
 obtain⟨t,m⟩:∃t,S.ts[0]?=some t:=⟨S.ts[0]'(by omega),List.getElem?_eq_getElem _⟩
 obtain⟨E,c,e,B,q,g⟩:=zh f
 cases e
 obtain⟨a,rfl⟩:∃a,D=some ⟨a,0,none⟩:=by
  rcases g with ⟨-,g,-⟩ | g
  ·have:S.ts.length=0:=g;omega
  ·exact g
 obtain⟨b,o,y,A,-,-⟩:=ja (Row.of_own f) m
 cases y
 refine⟨a,d,S.st,S.ex,j,k,t.n,?_,x,?_,?_,?_,?_⟩
 ·unfold gv gmOf fv;simp only[s,u]
 ·simpa using A
 ·unfold tkAt at i;rw[m]at i;exact i
 ·have:S.ts.length<=d:=B;omega
 ·unfold maxLen at q;exact q
theorem qim(s:ByteArray)(w:World)(f:s.size<=1048576)(k a:Int)(h:qg2 (jr s) k a=true):Calls Tryz.prog 100 #[.string s] w fun e c=>e=.returned (.tuple #[.agg #[.slice none 0 0,.string ⟨#[]⟩,.int .i64 0,.slice none 0 0],.agg #[.int .i64 k,.int .i64 a]])/\Below w.heap.size w c:=by
 refine(qg1 s w f).mono ?_;rintro e c ⟨d,b⟩;rw[qqn h]at b;exact⟨b,d⟩
theorem qkq(w:World)(N:Pow w):Calls Tryz.prog 88 #[] w fun e u=>e=.returned (.bool true)/\Below w.heap.size w u:=by
 have S:Hid (Pow w):=N
 have H1:Hid (∀W:World,Calls Tryz.prog 100 #[.string ⟨#[37,108,101,102,116,32,80,32,37,108,101,102,116,32,77,32,37,116,111,107,101,110,32,78,32,37,37,32,101,58,32,101,32,80,32,101,32,124,32,101,32,77,32,101,32,124,32,78,59]⟩] W fun e u=>∃i j q m o p H,e=.returned (.tuple #[.agg #[.slice (some ⟨i,0,none⟩) 3 j,.string q,.int .i64 m,.slice o 3 p],.agg #[.int .i64 0,.int .i64 0]])/\Below W.heap.size W u/\u.cell? ⟨i,0,none⟩=some (.string H)/\H.toList=[80]/\3<=j/\j<=9223372036854775807):=fun W=>qoy W
 have Q:Hid (∀W:World,Calls Tryz.prog 100 #[.string ⟨#[37,116,111,107,101,110,32,65,32,65,32,37,37]⟩] W fun e u=>e=.returned (.tuple #[.agg #[.slice none 0 0,.string ⟨#[]⟩,.int .i64 0,.slice none 0 0],.agg #[.int .i64 7,.int .i64 9]])/\Below W.heap.size W u):=fun W=>qim tx2 W (by decide) 7 9 qow
 have R:Hid (∀W:World,Calls Tryz.prog 100 #[.string ⟨#[37,37,32,101,32,58,32,124,32]⟩] W fun e u=>e=.returned (.tuple #[.agg #[.slice none 0 0,.string ⟨#[]⟩,.int .i64 0,.slice none 0 0],.agg #[.int .i64 1,.int .i64 9]])/\Below W.heap.size W u):=fun W=>qim tx3 W (by decide) 1 9 qox
 clear N;go_enter Tryz.func88,Tryz.ntmps88;go_wp2_with fail;refine(H1.out _).mono ?_;rintro e V ⟨i,j,q,m,o,p,H,rfl,x,C,D,O,P⟩;have v:Below V.heap.size V ((V.alloc (.cells #[.slice (some ⟨i,0,none⟩) 3 j,.string q,.int .i64 m,.slice o 3 p] 25)).alloc (.cells #[.int .i64 0,.int .i64 0] 125)):=qd (qb _ _) (qb _ _);have d:((V.alloc (.cells #[.slice (some ⟨i,0,none⟩) 3 j,.string q,.int .i64 m,.slice o 3 p] 25)).alloc (.cells #[.int .i64 0,.int .i64 0] 125)).heap[V.heap.size]?=some (.cells #[.slice (some ⟨i,0,none⟩) 3 j,.string q,.int .i64 m,.slice o 3 p] 25 (0,0)):=qf (qb _ _) (heap_alloc_new _ _)
 have f:((V.alloc (.cells #[.slice (some ⟨i,0,none⟩) 3 j,.string q,.int .i64 m,.slice o 3 p] 25)).alloc (.cells #[.int .i64 0,.int .i64 0] 125)).heap[V.heap.size+1]?=some (.cells #[.int .i64 0,.int .i64 0] 125 (0,0)):=by
  have:=heap_alloc_new (V.alloc (.cells #[.slice (some ⟨i,0,none⟩) 3 j,.string q,.int .i64 m,.slice o 3 p] 25)) (.cells #[.int .i64 0,.int .i64 0] 125)
  rwa [qt]at this
 go_upto_region 2 with fail
 obtain⟨J,E⟩:∃J,J=V.heap.size:=⟨_,rfl⟩
 rw[<-E]at d f ⊢
 generalize (V.alloc (.cells #[.slice (some ⟨i,0,none⟩) 3 j,.string q,.int .i64 m,.slice o 3 p] 25)).alloc (.cells #[.int .i64 0,.int .i64 0] 125)=r at *
 have a:Hid (Below w.heap.size w r/\r.heap[J]?=some (.cells #[.slice (some ⟨i,0,none⟩) 3 j,.string q,.int .i64 m,.slice o 3 p] 25 (0,0))/\r.heap[J+1]?=some (.cells #[.int .i64 0,.int .i64 0] 125 (0,0))/\r.cell? ⟨i,0,none⟩=some (.string H)):=⟨qd x v,d,f,qj v C⟩
 clear x v d f C E;go_wp2_with fail;refine(Q.out _).mono ?_;rintro e X ⟨rfl,y⟩;have A:Below X.heap.size X ((X.alloc (.cells #[.slice none 0 0,.string ⟨#[]⟩,.int .i64 0,.slice none 0 0] 25)).alloc (.cells #[.int .i64 7,.int .i64 9] 125)):=qd (qb _ _) (qb _ _);have s:((X.alloc (.cells #[.slice none 0 0,.string ⟨#[]⟩,.int .i64 0,.slice none 0 0] 25)).alloc (.cells #[.int .i64 7,.int .i64 9] 125)).heap[X.heap.size]?=some (.cells #[.slice none 0 0,.string ⟨#[]⟩,.int .i64 0,.slice none 0 0] 25 (0,0)):=qf (qb _ _) (heap_alloc_new _ _)
 have g:((X.alloc (.cells #[.slice none 0 0,.string ⟨#[]⟩,.int .i64 0,.slice none 0 0] 25)).alloc (.cells #[.int .i64 7,.int .i64 9] 125)).heap[X.heap.size+1]?=some (.cells #[.int .i64 7,.int .i64 9] 125 (0,0)):=by
  have:=heap_alloc_new (X.alloc (.cells #[.slice none 0 0,.string ⟨#[]⟩,.int .i64 0,.slice none 0 0] 25)) (.cells #[.int .i64 7,.int .i64 9] 125)
  rwa [qt]at this
 go_upto_region 3 with fail
 obtain⟨K,F⟩:∃K,K=X.heap.size:=⟨_,rfl⟩
 rw[<-F]at s g ⊢
 generalize (X.alloc (.cells #[.slice none 0 0,.string ⟨#[]⟩,.int .i64 0,.slice none 0 0] 25)).alloc (.cells #[.int .i64 7,.int .i64 9] 125)=I at *
 have l:Hid (Below r.heap.size r I/\I.heap[K+1]?=some (.cells #[.int .i64 7,.int .i64 9] 125 (0,0))):=⟨qd y A,g⟩
 clear y A s g F;go_wp2_with fail;refine(R.out _).mono ?_;rintro e Y ⟨rfl,z⟩;have B:Below Y.heap.size Y ((Y.alloc (.cells #[.slice none 0 0,.string ⟨#[]⟩,.int .i64 0,.slice none 0 0] 25)).alloc (.cells #[.int .i64 1,.int .i64 9] 125)):=qd (qb _ _) (qb _ _);have t:((Y.alloc (.cells #[.slice none 0 0,.string ⟨#[]⟩,.int .i64 0,.slice none 0 0] 25)).alloc (.cells #[.int .i64 1,.int .i64 9] 125)).heap[Y.heap.size]?=some (.cells #[.slice none 0 0,.string ⟨#[]⟩,.int .i64 0,.slice none 0 0] 25 (0,0)):=qf (qb _ _) (heap_alloc_new _ _)
 have h:((Y.alloc (.cells #[.slice none 0 0,.string ⟨#[]⟩,.int .i64 0,.slice none 0 0] 25)).alloc (.cells #[.int .i64 1,.int .i64 9] 125)).heap[Y.heap.size+1]?=some (.cells #[.int .i64 1,.int .i64 9] 125 (0,0)):=by
  have:=heap_alloc_new (Y.alloc (.cells #[.slice none 0 0,.string ⟨#[]⟩,.int .i64 0,.slice none 0 0] 25)) (.cells #[.int .i64 1,.int .i64 9] 125)
  rwa [qt]at this
 go_upto_region 4 with fail
 obtain⟨L,G⟩:∃L,L=Y.heap.size:=⟨_,rfl⟩
 rw[<-G]at t h ⊢
 generalize (Y.alloc (.cells #[.slice none 0 0,.string ⟨#[]⟩,.int .i64 0,.slice none 0 0] 25)).alloc (.cells #[.int .i64 1,.int .i64 9] 125)=Y1 at *
 have b:Hid (Below I.heap.size I Y1/\Y1.heap[L+1]?=some (.cells #[.int .i64 1,.int .i64 9] 125 (0,0))):=⟨qd z B,h⟩
 clear z B t h G
 have k:Hid (Below r.heap.size r Y1/\Below w.heap.size w Y1):=⟨qd l.out.1 b.out.1,qd a.out.1 (qd l.out.1 b.out.1)⟩
 go_wp2_with fail;refine(qi8 Y1 (S.out.below k.out.2)).mono ?_;rintro e U ⟨rfl,c⟩;have n:=qd k.out.1 c;obtain⟨Z,a1,a2,a3,-,-,-,-⟩:=j1 (qf n a.out.2.1);obtain⟨a4,a5,-,-⟩:=zg (qf n a.out.2.2.1);have a6:=qj n a.out.2.2.2;obtain⟨b4,b5,-,-⟩:=zg (qf (qd b.out.1 c) l.out.2);obtain⟨d4,d5,-,-⟩:=zg (qf c b.out.2);have T:Hid (Below w.heap.size w U):=qd k.out.2 c
 have M:(H.toList == [80])=true:=by rw[D];rfl
 clear n c a l b k D;go_wp2_with fail;go_ret;exact⟨rfl,T.out⟩
theorem u23:Tryz.prog.underlying 23=some (.slice 55):=by kernel_rfl
theorem qoz(qs:List (Ru × Option Addr × Nat))(q:Ru × Option Addr × Nat):rulC (qs++[q])=rulC qs++[.string q.1.l,.slice q.2.1 q.1.r.length q.2.2,.string q.1.p]:=by unfold rulC;rw[List.flatMap_append];rfl
theorem OwnG.addRu{W:World}{a:Nat}{h:Hd}{G:Gm}{qs:List (Ru × Option Addr × Nat)}(o:OwnG W a h G qs)(q:Ru × Option Addr × Nat)(n:Nat)(z:G.rs.length=n)(H:OwnS W a (.slice q.2.1 q.1.r.length q.2.2) q.1.r)(A:a<=W.heap.size)(L:n<10000):
  ∃g c f,(Builtin.append_ #[23,23] 23 #[.slice h.ra n h.rc,.slice (some ⟨W.heap.size,0,none⟩) 1 1]).run Tryz.prog (W.alloc (.cells #[.string q.1.l,.slice q.2.1 q.1.r.length q.2.2,.string q.1.p] 55))=.ok (.slice (some ⟨g,0,none⟩) (n+1) c) f/\OwnG f a ⟨h.ta,h.tc,some ⟨g,0,none⟩,c⟩ ⟨G.ts,G.s,G.e,G.rs++[q.1]⟩ (qs++[q])/\Kept (fun k=>blk h.ra=some k) W f/\(∀(b T:Nat) (d:Array Value),W.heap[b]?=some (.cells d T (0,0))->T≠55->f.heap[b]?=some (.cells d T (0,0))):=by
 subst z;obtain⟨g,c,f,I,m,F,K⟩:=jc (us:=[.string q.1.l,.slice q.2.1 q.1.r.length q.2.2,.string q.1.p]) u23 Tryz.info55 rfl (by decide) (by decide) rfl (fun u y=>by simp at y;rcases y with rfl | rfl | rfl <;> rfl) o.rul A (by omega)
 have j:Kept (fun k=>blk h.ra=some k) W f:=((Kept.refl _ W).alloc _).trans F (fun k _ e=>zi e)
 have stay:∀{E k n:Nat} {v:Value} {cs:List Value},W.ownsRow a E k v n cs->E≠55->f.ownsRow a E k v n cs:=fun m B=>j8 m j (fun i D e=>qr (qx m D) (qw o.rul e).2.2 B rfl)
 refine⟨g,c,f,I,⟨stay o.tok (by decide),?_,by rw[List.map_append,o.map];rfl,?_⟩,j,fun b T d t C=>?_⟩
 ·rw[qoz];simp only[List.length_append,List.length_cons,List.length_nil];exact m
 ·intro J x
  rcases List.mem_append.1 x with h1 | h1
  ·exact stay (o.row J h1) (by decide)
  ·rw[List.mem_singleton]at h1;subst h1;exact stay H (by decide)
 ·rw[j.block _ (Array.getElem?_eq_some_iff.1 t).1 (fun e=>qr ⟨_,t⟩ (qw o.rul e).2.2 C rfl)];exact t
theorem qi9(w:World)(d:Pow w):Calls Tryz.prog 74 #[] w fun e a=>e=.returned (.bool true)/\Below w.heap.size w a:=by
 have H:Hid (Calls Tryz.prog 88 #[] w fun e a=>e=.returned (.bool true)/\Below w.heap.size w a):=qkq w d;go_enter Tryz.func74,Tryz.ntmps74;go_wp2_with fail;refine H.out.mono ?_;rintro e V ⟨rfl,b⟩;have c:Hid (Below w.heap.size w V):=b;clear b;go_wp2_with fail;go_ret;exact⟨rfl,c.out⟩
theorem qls:Small qa5:=by
 have h:=qan
 have b:bX.size<=100:=by decide
 refine⟨h.nt,by decide,h.st,h.tk,fun r a=>?_⟩
 rcases List.mem_append.1 a with a | a
 ·exact h.rl r a
 ·rw[List.mem_singleton]at a;subst a;refine⟨b,by decide,by decide,fun x c=>?_⟩;rw[List.mem_singleton]at c;subst c;exact b
theorem qqp(w:World):IsG w ⟨none,0,none,0⟩ qje:=⟨⟨rfl,Nat.le_refl _,Nat.zero_le _,.inl ⟨rfl,rfl,rfl⟩⟩,⟨[],rfl,⟨rfl,Nat.le_refl _,Nat.zero_le _,.inl ⟨rfl,rfl,rfl⟩⟩,fun q h=>(by cases h)⟩,⟨by decide,by decide,by decide,fun t h=>(by cases h),fun r h=>(by cases h)⟩⟩
theorem qmf(h:SHd):sC h (spG qu)=#[.int .i64 3,.int .i64 1,.int .i64 4,.int .i64 0,.slice h.na 5 h.nc,.slice h.la 3 h.lc,.slice h.aa 3 h.ac,.slice h.ra 4 h.rc]:=by
 have e:(nmG qu).length=5:=by rw[jj,vt];rfl
 rw[xy];unfold sC;simp only[e];rfl
theorem qkr(W:World)(h:Hd)(n:IsG W h qu):Calls Tryz.prog 73 #[gv h qu] W fun e l=>∃g i d f b c j a,e=.returned (.tuple #[.agg #[.int .i64 3,.int .i64 1,.int .i64 4,.int .i64 0,.slice g 5 i,.slice d 3 f,.slice b 3 c,.slice j 4 a],.int .i64 0])/\(IsSp l ⟨g,i,d,f,b,c,j,a⟩ (spG qu)/\4<=a/\a<=9223372036854775807)/\Below W.heap.size W l:=by
 refine(qkb qu h W 0 n qhr).mono ?_;rintro e l ⟨k,m⟩
 rcases k with ⟨k,-⟩ | ⟨-,⟨g,i,d,f,b,c,j,a⟩,rfl,hs⟩
 ·exact absurd rfl k
 ·refine⟨g,i,d,f,b,c,j,a,by unfold sv;rw[qmf],⟨hs,?_⟩,m⟩
  have:=j6 hs.rl
  have e:(spG qu).rs.length=4:=by rw[xy];rfl
  rw[e]at this;exact this
theorem qfb(G:Gm)(k:Int)(W:World)(h:Hd)(f:IsG W h G)(g:OfR G k)(c:k≠0):Calls Tryz.prog 73 #[gv h G] W fun e b=>e=.returned (.tuple #[.agg zC,.int .i64 k])/\Below W.heap.size W b:=by
 refine(qkb G h W k f g).mono ?_;rintro e b ⟨a,d⟩
 rcases a with ⟨-,a⟩ | ⟨a,-⟩
 ·exact⟨a,d⟩
 ·exact absurd a c
theorem qlt(W:World)(h:SHd)(m:IsSp W h (spG qu)):Calls Tryz.prog 61 #[.agg #[.int .i64 3,.int .i64 1,.int .i64 4,.int .i64 0,.slice h.na 5 h.nc,.slice h.la 3 h.lc,.slice h.aa 3 h.ac,.slice h.ra 4 h.rc]] W fun e b=>∃a,e=.returned (.slice (some ⟨a,0,none⟩) 5 5)/\b.cell? ⟨a,4,none⟩=some (.bool true)/\b.cell? ⟨a,3,none⟩=some (.bool false)/\Below W.heap.size W b:=by
 have:=qb6 W h (spG qu) 5 (by rw[xy];rfl) (qei qb4 qdl qc4) m
 unfold sv at this;rw[qmf]at this;refine this.mono ?_;rintro e b ⟨a,fd,rfl,f,g,i,l⟩;have d:=qc3 g f (show 4<5 by omega);have c:=qc3 g f (show 3<5 by omega);have k:isF fd 4=true:=(qav i (by omega)).2 qic
 have j:isF fd 3=false:=by
  cases n:isF fd 3
  ·rfl
  ·exact absurd ((qav i (by omega)).1 n) qop
 rw[k]at d;rw[j]at c;exact⟨a,rfl,d,c,l⟩
theorem qks(w:World)(hp:Pow w):Calls Tryz.prog 52 #[] w fun e z=>e=.returned (.bool true)/\Below w.heap.size w z:=by
 have HP:Hid (Pow w):=hp;clear hp
 have U:Hid (∀V:World,Calls Tryz.prog 25 #[] V fun e z=>∃R S l d,e=.returned (.agg #[.slice R 3 S,.string ⟨#[]⟩,.int .i64 0,.slice l 3 d])/\(∃qs,OwnG z V.heap.size ⟨R,S,l,d⟩ qu qs)/\Below V.heap.size V z):=fun V=>(qdb V).mono (fun e z ⟨⟨R,S,l,d⟩,qs,he,ho,hb⟩=>⟨R,S,l,d,he,⟨qs,ho⟩,hb⟩)
 go_enter Tryz.func52,Tryz.ntmps52;go_wp2_with fail;refine(U.out _).mono ?_;rintro e V1 ⟨R,S,a4,a5,rfl,a2,a6⟩
 have H1:Hid ((∃qs,OwnG V1 w.heap.size ⟨R,S,a4,a5⟩ qu qs)/\Below w.heap.size w V1):=⟨a2,a6⟩
 have K:Hid (Calls Tryz.prog 73 #[.agg #[.slice R 3 S,.string ⟨#[]⟩,.int .i64 0,.slice a4 3 a5]] V1 fun e z=>∃u x s t m o l d,e=.returned (.tuple #[.agg #[.int .i64 3,.int .i64 1,.int .i64 4,.int .i64 0,.slice u 5 x,.slice s 3 t,.slice m 3 o,.slice l 4 d],.int .i64 0])/\(IsSp z ⟨u,x,s,t,m,o,l,d⟩ (spG qu)/\4<=d/\d<=9223372036854775807)/\Below V1.heap.size V1 z):=by
  obtain⟨qs,ho⟩:=a2;exact qkr V1 ⟨R,S,a4,a5⟩ (ho.isG qan)
 clear a2 a6;go_wp2_with fail;refine K.out.mono ?_;rintro e F ⟨u,x,s,t,m,o,l,d,rfl,⟨hs,b3,b4⟩,a7⟩;have r:Below F.heap.size F (F.alloc (.cells #[.int .i64 3,.int .i64 1,.int .i64 4,.int .i64 0,.slice u 5 x,.slice s 3 t,.slice m 3 o,.slice l 4 d] 31)):=qb _ _;have hx:(F.alloc (.cells #[.int .i64 3,.int .i64 1,.int .i64 4,.int .i64 0,.slice u 5 x,.slice s 3 t,.slice m 3 o,.slice l 4 d] 31)).heap[F.heap.size]?=some (.cells #[.int .i64 3,.int .i64 1,.int .i64 4,.int .i64 0,.slice u 5 x,.slice s 3 t,.slice m 3 o,.slice l 4 d] 31 (0,0)):=heap_alloc_new _ _
 have H2:Hid (IsSp (F.alloc (.cells #[.int .i64 3,.int .i64 1,.int .i64 4,.int .i64 0,.slice u 5 x,.slice s 3 t,.slice m 3 o,.slice l 4 d] 31)) ⟨u,x,s,t,m,o,l,d⟩ (spG qu)/\(F.alloc (.cells #[.int .i64 3,.int .i64 1,.int .i64 4,.int .i64 0,.slice u 5 x,.slice s 3 t,.slice m 3 o,.slice l 4 d] 31)).heap[F.heap.size]?=some (.cells #[.int .i64 3,.int .i64 1,.int .i64 4,.int .i64 0,.slice u 5 x,.slice s 3 t,.slice m 3 o,.slice l 4 d] 31 (0,0))/\Below w.heap.size w (F.alloc (.cells #[.int .i64 3,.int .i64 1,.int .i64 4,.int .i64 0,.slice u 5 x,.slice s 3 t,.slice m 3 o,.slice l 4 d] 31))):=⟨hs.below r,hx,qd (qd H1.out.2 a7) r⟩
 clear hs r hx a7 K H1
 go_upto_region 2 with fail
 generalize F.alloc (.cells #[.int .i64 3,.int .i64 1,.int .i64 4,.int .i64 0,.slice u 5 x,.slice s 3 t,.slice m 3 o,.slice l 4 d] 31)=A at H2 ⊢;generalize F.heap.size=sb at H2 ⊢;go_wp2_with fail;refine(U.out _).mono ?_;rintro e B ⟨a,b,h,j,rfl,⟨b2,b0⟩,Y⟩;have r:Below B.heap.size B (B.alloc (.cells #[.slice a 3 b,.string ⟨#[]⟩,.int .i64 0,.slice h 3 j] 25)):=qb _ _;have hx:(B.alloc (.cells #[.slice a 3 b,.string ⟨#[]⟩,.int .i64 0,.slice h 3 j] 25)).heap[B.heap.size]?=some (.cells #[.slice a 3 b,.string ⟨#[]⟩,.int .i64 0,.slice h 3 j] 25 (0,0)):=heap_alloc_new _ _
 have f:Hid (OwnG (B.alloc (.cells #[.slice a 3 b,.string ⟨#[]⟩,.int .i64 0,.slice h 3 j] 25)) A.heap.size ⟨a,b,h,j⟩ qu b2/\(B.alloc (.cells #[.slice a 3 b,.string ⟨#[]⟩,.int .i64 0,.slice h 3 j] 25)).heap[B.heap.size]?=some (.cells #[.slice a 3 b,.string ⟨#[]⟩,.int .i64 0,.slice h 3 j] 25 (0,0))/\Below A.heap.size A (B.alloc (.cells #[.slice a 3 b,.string ⟨#[]⟩,.int .i64 0,.slice h 3 j] 25))/\A.heap.size<=B.heap.size):=⟨b0.below r,hx,qd Y r,Y.size⟩
 clear b0 r hx Y U
 go_upto_region 3 with fail
 generalize B.alloc (.cells #[.slice a 3 b,.string ⟨#[]⟩,.int .i64 0,.slice h 3 j] 25)=C at f ⊢;generalize B.heap.size=H at f ⊢;have r:Below C.heap.size C (C.alloc (.cells #[.string ⟨#[120]⟩] 9)):=qb _ _;have Q:OwnS (C.alloc (.cells #[.string ⟨#[120]⟩] 9)) A.heap.size (.slice (some ⟨C.heap.size,0,none⟩) 1 1) [bX]:=vz C A.heap.size 9 1 1 [.string bX] f.out.2.2.1.size rfl (by omega);obtain⟨g,c,L,a3,J,a9,N⟩:=(f.out.1.below r).addRu (⟨bX,[bX],e0⟩,some ⟨C.heap.size,0,none⟩,1) 3 rfl Q (by rw[qt];have:=f.out.2.2.1.size;omega) (by omega)
 have P:(Builtin.append_ #[23,23] 23 #[.slice h 3 j,.slice (some ⟨C.heap.size+1,0,none⟩) 1 1]).run Tryz.prog ((C.alloc (.cells #[.string ⟨#[120]⟩] 9)).alloc (.cells #[.string ⟨#[120]⟩,.slice (some ⟨C.heap.size,0,none⟩) 1 1,.string ⟨#[]⟩] 55))=.ok (.slice (some ⟨g,0,none⟩) 4 c) L:=by
  rw[qt]at a3;exact a3
 have y:=N H 25 _ (qf r f.out.2.1) (by decide);have p3:C.cell? ⟨H,3,none⟩=some (.slice h 3 j):=(box4 f.out.2.1).2.2.2;have y3:L.cell? ⟨H,3,none⟩=some (.slice h 3 j):=(box4 y).2.2.2;have f3:L.frozen? ⟨H,3,none⟩=false:=qi y 3
 have D:Hid (OwnG (L.setCell ⟨H,3,none⟩ (.slice (some ⟨g,0,none⟩) 4 c)) A.heap.size ⟨a,b,some ⟨g,0,none⟩,c⟩ qa5 (b2++[(⟨bX,[bX],e0⟩,some ⟨C.heap.size,0,none⟩,1)])/\(L.setCell ⟨H,3,none⟩ (.slice (some ⟨g,0,none⟩) 4 c)).heap[H]?=some (.cells #[.slice a 3 b,.string ⟨#[]⟩,.int .i64 0,.slice (some ⟨g,0,none⟩) 4 c] 25 (0,0))/\Below A.heap.size A (L.setCell ⟨H,3,none⟩ (.slice (some ⟨g,0,none⟩) 4 c))):=by
  have a1:∀{E k n:Nat} {v:Value} {cs:List Value},L.ownsRow A.heap.size E k v n cs->E≠25->(L.setCell ⟨H,3,none⟩ (.slice (some ⟨g,0,none⟩) 4 c)).ownsRow A.heap.size E k v n cs:=fun ho hE=>qh ho (fun i hi=>Below.heap_setCell _ _ _ _ (qr (qx ho hi) ⟨_,y⟩ hE))
  refine⟨⟨a1 J.tok (by decide),a1 J.rul (by decide),J.map,fun q hq=>a1 (J.row q hq) (by decide)⟩,?_,?_⟩
  ·rw[qko _ y];rfl
  ·refine((qd f.out.2.2.1 r).trans (a9.below (qd f.out.2.2.1 r).size (fun k hk e=>?_))).setCell (p:=⟨H,3,none⟩) f.out.2.2.2 _;have:=(qw (f.out.1.below r).rul e).1;omega
 clear r Q a3 J a9 N y f
 go_upto_region 4 with (at_builtin;refine Lib.wpList_append_run _ rfl _ _ _ _ rfl _ _ rfl rfl _ _ P ?_)
 generalize L.setCell ⟨H,3,none⟩ (.slice (some ⟨g,0,none⟩) 4 c)=V7 at D ⊢;clear P p3 y3 f3;obtain⟨p0,p1,p2,p3⟩:=box4 D.out.2.1;have K:Hid (Calls Tryz.prog 73 #[.agg #[.slice a 3 b,.string ⟨#[]⟩,.int .i64 0,.slice (some ⟨g,0,none⟩) 4 c]] V7 fun e z=>e=.returned (.tuple #[.agg zC,.int .i64 8])/\Below V7.heap.size V7 z):=qfb qa5 8 V7 ⟨a,b,some ⟨g,0,none⟩,c⟩ (D.out.1.isG qls) qqf (by decide);unfold zC sC at K;go_wp2_with fail;refine K.out.mono ?_;rintro e V8 ⟨rfl,a8⟩;have H8:Hid (Below A.heap.size A V8):=qd D.out.2.2 a8;clear a8 K D p0 p1 p2 p3
 have K:Hid (∀V:World,Calls Tryz.prog 73 #[.agg #[.slice none 0 0,.string ⟨#[]⟩,.int .i64 0,.slice none 0 0]] V fun e z=>e=.returned (.tuple #[.agg zC,.int .i64 7])/\Below V.heap.size V z):=fun V=>qfb qje 7 V ⟨none,0,none,0⟩ (qqp V) qrq (by decide)
 unfold zC sC at K;go_wp2_with fail;refine(K.out _).mono ?_;rintro e G ⟨rfl,M⟩;have b1:=qf (qd H8.out (qd (qb _ _) M)) H2.out.2.1
 have H9:Hid (IsSp G ⟨u,x,s,t,m,o,l,d⟩ (spG qu)/\G.heap[sb]?=some (.cells #[.int .i64 3,.int .i64 1,.int .i64 4,.int .i64 0,.slice u 5 x,.slice s 3 t,.slice m 3 o,.slice l 4 d] 31 (0,0))/\Below w.heap.size w G):=⟨H2.out.1.below (qd H8.out (qd (qb _ _) M)),b1,qd H2.out.2.2 (qd H8.out (qd (qb _ _) M))⟩
 clear b1 M K H8 H2;have r:Below G.heap.size G (G.alloc (.cells zC 31)):=qb _ _
 have T:Hid (IsSp (G.alloc (.cells zC 31)) ⟨u,x,s,t,m,o,l,d⟩ (spG qu)/\(G.alloc (.cells zC 31)).heap[sb]?=some (.cells #[.int .i64 3,.int .i64 1,.int .i64 4,.int .i64 0,.slice u 5 x,.slice s 3 t,.slice m 3 o,.slice l 4 d] 31 (0,0))/\Below w.heap.size w (G.alloc (.cells zC 31))):=⟨H9.out.1.below r,qf r H9.out.2.1,qd H9.out.2.2 r⟩
 unfold zC sC at T;clear r
 go_upto_region 6 with fail
 obtain⟨X,a0⟩:∃X,X=G.alloc (.cells #[.int .i64 ((0:Nat):Int),.int .i64 ((0:Nat):Int),.int .i64 ((0:Nat):Int),.int .i64 0,.slice none ([]:List ByteArray).length 0,.slice none ([]:List Int).length 0,.slice none ([]:List Int).length 0,.slice none ([]:List SR).length 0] 31):=⟨_,rfl⟩
 rw[<-a0]at T;have O:G.alloc (.cells #[.int .i64 0,.int .i64 0,.int .i64 0,.int .i64 0,.slice none 0 0,.slice none 0 0,.slice none 0 0,.slice none 0 0] 31)=X:=a0.symm;rw[O];clear a0 O H9;obtain⟨c0,c1,c2,c3,c4,c5,c6,c7⟩:=box8 T.out.2.1;have HY:Hid (Calls Tryz.prog 61 #[.agg #[.int .i64 3,.int .i64 1,.int .i64 4,.int .i64 0,.slice u 5 x,.slice s 3 t,.slice m 3 o,.slice l 4 d]] X fun e z=>∃fb,e=.returned (.slice (some ⟨fb,0,none⟩) 5 5)/\z.cell? ⟨fb,4,none⟩=some (.bool true)/\z.cell? ⟨fb,3,none⟩=some (.bool false)/\Below X.heap.size X z):=qlt X ⟨u,x,s,t,m,o,l,d⟩ T.out.1;go_wp2_with fail;refine HY.out.mono ?_;rintro e VB ⟨fb,rfl,y4,y3,Z⟩
 have HB:Hid (VB.heap[sb]?=some (.cells #[.int .i64 3,.int .i64 1,.int .i64 4,.int .i64 0,.slice u 5 x,.slice s 3 t,.slice m 3 o,.slice l 4 d] 31 (0,0))/\Below w.heap.size w VB/\VB.cell? ⟨fb,4,none⟩=some (.bool true)/\VB.cell? ⟨fb,3,none⟩=some (.bool false)):=⟨qf Z T.out.2.1,qd T.out.2.2 Z,y4,y3⟩
 clear c0 c1 c2 c3 c4 c5 c6 c7 HY T Z y4 y3;go_wp2_with fail;refine(qi9 VB (HP.out.below HB.out.2.1)).mono ?_;rintro e VC ⟨rfl,I⟩;obtain⟨c0,c1,c2,c3,c4,c5,c6,c7⟩:=box8 (qf I HB.out.1);have y4:=qj I HB.out.2.2.1;have y3:=qj I HB.out.2.2.2;have HE:Hid (Below w.heap.size w VC):=qd HB.out.2.1 I;clear I HB;go_wp2_with fail;go_ret;exact⟨rfl,HE.out⟩
theorem qqq{rs:List Ru}(a:rs≠[]){x:ByteArray}(d:(lfs rs)[0]?=some x):((rs[0]?).map (·.l)).getD e0=x:=by
 have b:∀(rs:List Ru) (l:List ByteArray) (x:ByteArray),l[0]?=some x->(rs.foldl lfS l)[0]?=some x:=by
  intro rs
  induction rs with
  | nil=>intro l x h;exact h
  | cons r rs ih =>
   intro l x h;rw[List.foldl_cons];refine ih _ x ?_;unfold lfS
   split
   ·exact h
   ·rw[List.getElem?_append_left (List.getElem?_eq_some_iff.1 h).1];exact h
 cases rs with
 | nil=>exact absurd rfl a
 | cons r rs =>
  have c:(lfs (r :: rs))[0]?=some r.l:=b rs (lfS [] r) r.l rfl;rw[d]at c
  cases c
  rfl
theorem qo0(G:Gm)(h:Hd)(w:World)(k:Int)(hG:IsG w h G)(hk:OfR G k):Calls Tryz.prog 10 #[gv h G] w fun e w'=>((k≠0/\e=.returned (.tuple #[.agg zC,.int .i64 k]))\/(k=0/\∃u,e=.returned (.tuple #[sv u (spG G),.int .i64 0])/\IsSp w' u (spG G)))/\Below w.heap.size w w':=by
 have a0:G.ts.length<=100:=hG.small.nt;have a1:G.rs.length<=200:=hG.small.nr;have p9:=kj hG.rul;have HG:Hid (IsG w h G):=hG;have HK:Hid (OfR G k):=hk;clear hG hk;obtain⟨bm,p4⟩:=zr (MayP G);have i1:Hid (bm=true↔MayP G):=p4
 have d4:Hid (∀V,Below w.heap.size w V->Calls Tryz.prog 28 #[gv h G] V fun e w'=>e=.returned (.bool bm)/\Below V.heap.size V w'):=fun V hV=>qm3 G h V bm (HG.out.below hV) i1.out
 obtain⟨bl,o9⟩:=zr (kz G);have i0:Hid (bl=true↔kz G):=o9
 have c9:Hid (∀V,Below w.heap.size w V->Calls Tryz.prog 29 #[gv h G] V fun e w'=>e=.returned (.bool bl)/\Below V.heap.size V w'):=fun V hV=>qlj G h V (HG.out.below hV) bl i0.out
 obtain⟨bn,p5⟩:=zr (NmP G);have i2:Hid (bn=true↔NmP G):=p5
 have d6:Hid (∀V,Below w.heap.size w V->Calls Tryz.prog 30 #[gv h G] V fun e w'=>e=.returned (.bool bn)/\Below V.heap.size V w'):=fun V hV=>qka G h V (HG.out.below hV) bn i2.out
 obtain⟨m,HM⟩:∃m,Hid ((lfs G.rs).length=m):=⟨_,rfl⟩
 have u6:m<=200:=by have:=j9 G.rs;have:=HM.out;omega
 have d3:Hid (∀V,Below w.heap.size w V->Calls Tryz.prog 31 #[gv h G] V fun e w'=>∃ao c,e=.returned (.slice ao m c)/\Row w' 1 ao m c (strC (lfs G.rs))/\Below V.heap.size V w'):=fun V hV=>by
  have:=qb9 G h V (HG.out.below hV);rw[HM.out]at this;exact this.mono (fun e w' ⟨ao,c,he,ho,hb⟩=>⟨ao,c,he,Row.of_own ho,hb⟩)
 clear p4 o9 p5;obtain⟨F,C,O,D⟩:=h;unfold gv at d4 c9 d6 d3 ⊢;simp only at p9 d4 c9 d6 d3 ⊢
 have r6:G.ts.length<=C/\C<=9223372036854775807:=by have h1:=HG.out.tok.le;have h2:=HG.out.tok.max;simp only at h1 h2;unfold maxLen at h2;omega
 have h5:Below w.heap.size w ((w.alloc (.cells #[.slice F G.ts.length C,.string G.s,.int .i64 G.e,.slice O G.rs.length D] 25)).alloc (.cells zC 31)):=qd (qb _ _) (qb _ _);have b5:((w.alloc (.cells #[.slice F G.ts.length C,.string G.s,.int .i64 G.e,.slice O G.rs.length D] 25)).alloc (.cells zC 31)).heap[w.heap.size]?=some (.cells #[.slice F G.ts.length C,.string G.s,.int .i64 G.e,.slice O G.rs.length D] 25 (0,0)):=qf (qb _ _) (heap_alloc_new _ _)
 have b3:((w.alloc (.cells #[.slice F G.ts.length C,.string G.s,.int .i64 G.e,.slice O G.rs.length D] 25)).alloc (.cells zC 31)).heap[w.heap.size+1]?=some (.cells zC 31 (0,0)):=by
  have:=heap_alloc_new (w.alloc (.cells #[.slice F G.ts.length C,.string G.s,.int .i64 G.e,.slice O G.rs.length D] 25)) (.cells zC 31)
  rwa [qt]at this
 obtain⟨tn,I⟩:∃tn,Hid (G.ts.length=tn):=⟨_,rfl⟩
 obtain⟨R,a3⟩:∃R,Hid (G.rs.length=R):=⟨_,rfl⟩
 rw[I.out]at a0 r6 d4 c9 d6 d3 h5 b5 b3 ⊢;rw[a3.out]at a1 p9 d4 c9 d6 d3 h5 b5 b3 ⊢;go_enter Tryz.func10,Tryz.ntmps10
 go_upto_region 1 with fail
 have ez:(w.alloc (.cells #[.slice F tn C,.string G.s,.int .i64 G.e,.slice O R D] 25)).alloc (.cells #[.int .i64 0,.int .i64 0,.int .i64 0,.int .i64 0,.slice none 0 0,.slice none 0 0,.slice none 0 0,.slice none 0 0] 31)=(w.alloc (.cells #[.slice F tn C,.string G.s,.int .i64 G.e,.slice O R D] 25)).alloc (.cells zC 31):=rfl;rw[ez];generalize (w.alloc (.cells #[.slice F tn C,.string G.s,.int .i64 G.e,.slice O R D] 25)).alloc (.cells zC 31)=W1 at h5 b5 b3 ⊢
 obtain⟨f,m0⟩:∃f,Hid (f=w.heap.size):=⟨_,rfl⟩
 rw[<-m0.out]at b5 b3 ⊢
 have f9:Hid (w.heap.size<=f+1):=by rw[m0.out];exact Nat.le_succ _
 generalize f+1=N at b3 f9 ⊢
 have i6:Hid (∀U V:World,(U.heap[f]?=some (.cells #[.slice F tn C,.string G.s,.int .i64 G.e,.slice O R D] 25 (0,0))/\U.heap[N]?=some (.cells zC 31 (0,0))/\Below w.heap.size w U)->Below U.heap.size U V->(V.heap[f]?=some (.cells #[.slice F tn C,.string G.s,.int .i64 G.e,.slice O R D] 25 (0,0))/\V.heap[N]?=some (.cells zC 31 (0,0))/\Below w.heap.size w V)):=fun U V h1 h2=>⟨qf h2 h1.1,qf h2 h1.2.1,qd h1.2.2 h2⟩
 have H1:Hid (W1.heap[f]?=some (.cells #[.slice F tn C,.string G.s,.int .i64 G.e,.slice O R D] 25 (0,0))/\W1.heap[N]?=some (.cells zC 31 (0,0))/\Below w.heap.size w W1):=⟨b5,b3,h5⟩
 obtain⟨p0,p1,p2,p3⟩:=box4 b5;clear ez h5 b5 b3 m0;go_wp2_with fail;refine(d4.out _ H1.out.2.2).mono ?_;rintro e W2 ⟨rfl,o4⟩;have H2:Hid (W2.heap[f]?=some (.cells #[.slice F tn C,.string G.s,.int .i64 G.e,.slice O R D] 25 (0,0))/\W2.heap[N]?=some (.cells zC 31 (0,0))/\Below w.heap.size w W2):=i6.out _ _ H1.out o4;clear H1 o4 p0 p1 p2 p3 d4
 rcases bm with _ | _
 ·have T:Hid (k=1):=by
   have hn:¬MayP G:=fun e=>by have:=i1.out.2 e;cases this
   rcases HK.out with e | e | e | e | e
   ·exact e.1
   ·exact absurd e.2.1 hn
   ·exact absurd e.2.1 hn
   ·exact absurd e.2.1 hn
   ·exact absurd e.2.1 hn
  obtain⟨z0,z1,z2,z3,z4,z5,z6,z7⟩:=box8 H2.out.2.1;obtain⟨f0,f1,f2,f3,f4,f5,f6,f7⟩:=qa4 H2.out.2.1
  have HF:Hid (∀v0 v1 v2 v3 v4 v5 v6 v7,Below w.heap.size w (set8 W2 N v0 v1 v2 v3 v4 v5 v6 v7)):=fun v0 v1 v2 v3 v4 v5 v6 v7=>jd H2.out.2.2 f9.out
  go_wp2_with fail;refine bodyPost_ret (v:=.tuple #[.agg zC,.int .i64 1]) (by unfold zC sC;simp[results,Tryz.results10,go_sem, *]) rfl ?_
  exact⟨.inl ⟨by rw[T.out];decide,by rw[T.out]⟩,HF.out _ _ _ _ _ _ _ _⟩
 have b4:Hid (MayP G):=i1.out.1 rfl;clear i1;obtain⟨p0,p1,p2,p3⟩:=box4 H2.out.1;go_wp2_with fail;refine(c9.out _ H2.out.2.2).mono ?_;rintro e W3 ⟨rfl,o5⟩;have H3:Hid (W3.heap[f]?=some (.cells #[.slice F tn C,.string G.s,.int .i64 G.e,.slice O R D] 25 (0,0))/\W3.heap[N]?=some (.cells zC 31 (0,0))/\Below w.heap.size w W3):=i6.out _ _ H2.out o5;clear H2 o5 p0 p1 p2 p3 c9
 rcases bl with _ | _
 rotate_left
 ·have T:Hid (k=6):=by
   have hn:kz G:=i0.out.1 rfl;have hm:MayP G:=b4.out
   rcases HK.out with e | e | e | e | e
   ·exact absurd hm e.2
   ·exact e.1
   ·exact absurd hn e.2.2.1
   ·exact absurd hn e.2.2.1
   ·exact absurd hn e.2.2.1
  obtain⟨z0,z1,z2,z3,z4,z5,z6,z7⟩:=box8 H3.out.2.1;obtain⟨f0,f1,f2,f3,f4,f5,f6,f7⟩:=qa4 H3.out.2.1
  have HF:Hid (∀v0 v1 v2 v3 v4 v5 v6 v7,Below w.heap.size w (set8 W3 N v0 v1 v2 v3 v4 v5 v6 v7)):=fun v0 v1 v2 v3 v4 v5 v6 v7=>jd H3.out.2.2 f9.out
  go_wp2_with fail;refine bodyPost_ret (v:=.tuple #[.agg zC,.int .i64 6]) (by unfold zC sC;simp[results,Tryz.results10,go_sem, *]) rfl ?_
  exact⟨.inl ⟨by rw[T.out];decide,by rw[T.out]⟩,HF.out _ _ _ _ _ _ _ _⟩
 have f8:Hid (¬kz G):=fun e=>by have:=i0.out.2 e;cases this
 clear i0;obtain⟨p0,p1,p2,p3⟩:=box4 H3.out.1;go_wp2_with fail;refine(d6.out _ H3.out.2.2).mono ?_;rintro e W4 ⟨rfl,o6⟩;have H4:Hid (W4.heap[f]?=some (.cells #[.slice F tn C,.string G.s,.int .i64 G.e,.slice O R D] 25 (0,0))/\W4.heap[N]?=some (.cells zC 31 (0,0))/\Below w.heap.size w W4):=i6.out _ _ H3.out o6;clear H3 o6 p0 p1 p2 p3 d6
 rcases bn with _ | _
 ·have T:Hid (k=7):=by
   have hl:¬kz G:=f8.out
   have hn:¬NmP G:=fun e=>by have:=i2.out.2 e;cases this
   have hm:MayP G:=b4.out
   rcases HK.out with e | e | e | e | e
   ·exact absurd hm e.2
   ·exact absurd e.2.2 hl
   ·exact e.1
   ·exact absurd e.2.2.2.1 hn
   ·exact absurd e.2.2.2.1 hn
  obtain⟨z0,z1,z2,z3,z4,z5,z6,z7⟩:=box8 H4.out.2.1;obtain⟨f0,f1,f2,f3,f4,f5,f6,f7⟩:=qa4 H4.out.2.1
  have HF:Hid (∀v0 v1 v2 v3 v4 v5 v6 v7,Below w.heap.size w (set8 W4 N v0 v1 v2 v3 v4 v5 v6 v7)):=fun v0 v1 v2 v3 v4 v5 v6 v7=>jd H4.out.2.2 f9.out
  go_wp2_with fail;refine bodyPost_ret (v:=.tuple #[.agg zC,.int .i64 7]) (by unfold zC sC;simp[results,Tryz.results10,go_sem, *]) rfl ?_
  exact⟨.inl ⟨by rw[T.out];decide,by rw[T.out]⟩,HF.out _ _ _ _ _ _ _ _⟩
 have b0:Hid (NmP G):=i2.out.1 rfl;clear i2;obtain⟨p0,p1,p2,p3⟩:=box4 H4.out.1;go_wp2_with fail;refine(d3.out _ H4.out.2.2).mono ?_;rintro e H ⟨lo,lc,rfl,Y,o8⟩;have u7:=ze Y
 have H5:Hid ((H.heap[f]?=some (.cells #[.slice F tn C,.string G.s,.int .i64 G.e,.slice O R D] 25 (0,0))/\H.heap[N]?=some (.cells zC 31 (0,0))/\Below w.heap.size w H)/\Row H 1 lo m lc (strC (lfs G.rs))):=⟨i6.out _ _ H4.out o8,Y⟩
 clear H4 o8 p0 p1 p2 p3 d3 Y;obtain⟨p0,p1,p2,p3⟩:=box4 H5.out.1.1;have hv:Below H.heap.size H (H.alloc (.cells #[.int .i64 (tn:Int),.int .i64 (m:Int),.int .i64 0,.int .i64 G.e,.slice none 0 0,.slice none 0 0,.slice none 0 0,.slice none 0 0] 31)):=qb _ _
 have H6:Hid (∃u,SX H (H.alloc (.cells #[.int .i64 (tn:Int),.int .i64 (m:Int),.int .i64 0,.int .i64 G.e,.slice none 0 0,.slice none 0 0,.slice none 0 0,.slice none 0 0] 31)) f N H.heap.size ⟨F,C,O,D⟩ G u (ry0 G 0)):=by
  refine⟨⟨none,0,none,0,none,0,none,0⟩,SB.first ?_ rfl rfl rfl rfl hv (Nat.le_refl _),?_,qf hv H5.out.1.2.1,?_⟩
  ·unfold ry0 sC;rw[I.out,HM.out];exact heap_alloc_new _ _
  ·rw[I.out,a3.out];exact qf hv H5.out.1.1
  ·have:=(Array.getElem?_eq_some_iff.1 H5.out.1.2.1).1;omega
 clear hv
 go_upto_region 9 with fail
 generalize H.alloc (.cells #[.int .i64 (tn:Int),.int .i64 (m:Int),.int .i64 0,.int .i64 G.e,.slice none 0 0,.slice none 0 0,.slice none 0 0,.slice none 0 0] 31)=W6 at H6 ⊢
 obtain⟨q,n5⟩:∃q,Hid (q=H.heap.size):=⟨_,rfl⟩
 rw[<-n5.out]at H6 ⊢;clear p0 p1 p2 p3
 have p0:W6.cell? ⟨f,0,none⟩=some (.slice F tn C):=by
  obtain⟨u,s⟩:=H6.out;rw[qe s.gx,I.out];rfl
 go_wp2_with fail;clear p0
 go_loopg [6] tn (fun kx s6 wr=>∃k:Nat,s6=.int .i64 k/\k<=tn/\tn - k<=kx/\Hid (∃u,SX H wr f N q ⟨F,C,O,D⟩ G u (ry0 G k)))
 case atStart=>exact⟨0,rfl,Nat.zero_le _,by omega,H6⟩
 case round =>
  clear H6;obtain⟨j,rfl,hj,hg,J⟩:=hrel
  by_cases b6:j<tn
  ·have h9:(j:Int)<(tn:Int):=by omega
   obtain⟨t,ht⟩:∃t,G.ts[j]?=some t:=⟨G.ts[j]'(by rw[I.out];exact b6),List.getElem?_eq_getElem _⟩
   have HT:Hid (G.ts[j]?=some t):=ht;obtain⟨u,s⟩:=J.out
   have e1:(ry0 G j).nm.length=j:=by unfold ry0;simp;have:=I.out;omega
   have e2:(ry0 G j).lv.length=j:=by unfold ry0;simp;have:=I.out;omega
   have e3:(ry0 G j).az.length=j:=by unfold ry0;simp;have:=I.out;omega
   obtain⟨b,o,q6,d0,d1,d2⟩:=ja (HG.out.tok.below (qd H5.out.1.2.2 s.sp.bel)) ht;simp only at q6;subst q6
   have m3:Hid (∀V,Below H.heap.size H V->V.cell? ⟨b,o+j * 3,none⟩=some (.string t.n)/\V.cell? ⟨b,o+j * 3+1,none⟩=some (.int .i64 t.l)/\V.cell? ⟨b,o+j * 3+2,none⟩=some (.int .i64 t.a)):=fun V hV=>by
    obtain⟨b',o',he,d0,d1,d2⟩:=ja (HG.out.tok.below (qd H5.out.1.2.2 hV)) HT.out
    cases he
    exact⟨d0,d1,d2⟩
   clear d0 d1 d2 ht J;obtain⟨g1,c1,V1,M,x1,f1,s1,-⟩:=(s.step (qk wr)).addNm t.n (by omega);obtain⟨-,-,-,-,y1,-,-,-⟩:=sbox s.sp.box
   have q0:wr.cell? ⟨f,0,none⟩=some (.slice (some ⟨b,o,none⟩) tn C):=by rw[qe s.gx,I.out];rfl
   obtain⟨d0,d1,d2⟩:=m3.out _ s.sp.bel;rw[e1]at M x1 s1 y1;have l4:(Builtin.append_ #[28,28] 28 #[.slice u.na j u.nc,.slice (some ⟨wr.heap.size,0,none⟩) 1 1]).run Tryz.prog (wr.alloc (.cells #[.string t.n] 9)).drew=.ok (.slice (some ⟨g1,0,none⟩) (j+1) c1) V1:=M;have l0:=qo q0 (.cells #[.string t.n] 9);have l3:=qo y1 (.cells #[.string t.n] 9);have h0:=qo d0 (.cells #[.string t.n] 9);have b1:Hid (SX H (V1.setCell ⟨q,4,none⟩ (.slice (some ⟨g1,0,none⟩) (j+1) c1)) f N q ⟨some ⟨b,o,none⟩,C,O,D⟩ G ⟨some ⟨g1,0,none⟩,c1,u.la,u.lc,u.aa,u.ac,u.ra,u.rc⟩ ⟨(ry0 G j).tk,(ry0 G j).nt,(ry0 G j).st,(ry0 G j).ex,(ry0 G j).nm++[t.n],(ry0 G j).lv,(ry0 G j).az,(ry0 G j).rs⟩):=s1;clear s1 s M d1 d2
   obtain⟨u5,s4⟩:∃x,Hid (u.la=x):=⟨_,rfl⟩
   go_upto_region 12 with fail
   go_cut [6] from 36 to 75 (fun s6 wd=>s6=.int .i64 (j:Int)/\Hid (SX H wd f N q ⟨some ⟨b,o,none⟩,C,O,D⟩ G ⟨some ⟨g1,0,none⟩,c1,u.la,u.lc,u.aa,u.ac,u.ra,u.rc⟩ ⟨(ry0 G j).tk,(ry0 G j).nt,(ry0 G j).st,(ry0 G j).ex,(ry0 G j).nm++[t.n],(ry0 G j).lv,(ry0 G j).az,(ry0 G j).rs⟩))
   case first =>
    go_region_law(refine zc rfl (.tmp 44) (.tmp 51) rfl rfl (by simp[Act.eval]) (by simp[Act.eval]) l4 ?_)
    all_goals (go_wp2_with fail;go_meet;exact⟨rfl,b1⟩)
   case rest =>
    obtain⟨rfl,HS⟩:=hcut
    obtain⟨Q1,t7⟩:∃Q1,Q1=wc:=⟨_,rfl⟩
    subst wc;clear b1 l4 q0 l0 y1 l3 d0 h0 x1 f1;obtain⟨g2,c2,V2,b8,x2,f2,s2,-⟩:=(HS.out.step (qk Q1)).addLv t.l (by show(ry0 G j).lv.length<10000;omega)
    obtain⟨-,-,-,-,-,y1,-,-⟩:=sbox HS.out.sp.box
    have q0:Q1.cell? ⟨f,0,none⟩=some (.slice (some ⟨b,o,none⟩) tn C):=by rw[qe HS.out.gx,I.out];rfl
    obtain⟨-,d0,-⟩:=m3.out _ HS.out.sp.bel;simp only at b8 x2 s2 y1;rw[e2]at b8 x2 s2 y1;have l5:(Builtin.append_ #[26,26] 26 #[.slice u.la j u.lc,.slice (some ⟨Q1.heap.size,0,none⟩) 1 1]).run Tryz.prog (Q1.alloc (.cells #[.int .i64 t.l] 3)).drew=.ok (.slice (some ⟨g2,0,none⟩) (j+1) c2) V2:=b8;have l0:=qo q0 (.cells #[.int .i64 t.l] 3);have l3:=qo y1 (.cells #[.int .i64 t.l] 3);have h0:=qo d0 (.cells #[.int .i64 t.l] 3);have n4:Hid (SX H (V2.setCell ⟨q,5,none⟩ (.slice (some ⟨g2,0,none⟩) (j+1) c2)) f N q ⟨some ⟨b,o,none⟩,C,O,D⟩ G ⟨some ⟨g1,0,none⟩,c1,some ⟨g2,0,none⟩,c2,u.aa,u.ac,u.ra,u.rc⟩ ⟨(ry0 G j).tk,(ry0 G j).nt,(ry0 G j).st,(ry0 G j).ex,(ry0 G j).nm++[t.n],(ry0 G j).lv++[t.l],(ry0 G j).az,(ry0 G j).rs⟩):=s2;clear s2 b8 HS
    go_upto_region 13 with fail
    go_cut [6] from 36 to 75 (fun s6 wd=>s6=.int .i64 (j:Int)/\Hid (SX H wd f N q ⟨some ⟨b,o,none⟩,C,O,D⟩ G ⟨some ⟨g1,0,none⟩,c1,some ⟨g2,0,none⟩,c2,u.aa,u.ac,u.ra,u.rc⟩ ⟨(ry0 G j).tk,(ry0 G j).nt,(ry0 G j).st,(ry0 G j).ex,(ry0 G j).nm++[t.n],(ry0 G j).lv++[t.l],(ry0 G j).az,(ry0 G j).rs⟩))
    case first =>
     go_region_law(refine zc rfl (.tmp 55) (.tmp 62) rfl rfl (by simp[Act.eval]) (by simp[Act.eval]) l5 ?_)
     all_goals (go_wp2_with fail;go_meet;exact⟨rfl,n4⟩)
    case rest =>
     obtain⟨rfl,HS⟩:=hcut
     obtain⟨Q2,t8⟩:∃Q2,Q2=wc:=⟨_,rfl⟩
     subst wc;clear n4 l5 q0 l0 y1 l3 d0 h0 x2 f2;obtain⟨g3,c3,V3,k7,x3,f3,s3⟩:=(HS.out.step (qk Q2)).addAz t.a (by show(ry0 G j).az.length<10000;omega)
     obtain⟨-,-,-,-,-,-,y1,-⟩:=sbox HS.out.sp.box
     have q0:Q2.cell? ⟨f,0,none⟩=some (.slice (some ⟨b,o,none⟩) tn C):=by rw[qe HS.out.gx,I.out];rfl
     obtain⟨-,-,d0⟩:=m3.out _ HS.out.sp.bel;simp only at k7 x3 s3 y1;rw[e3]at k7 x3 s3 y1;have q4:(Builtin.append_ #[26,26] 26 #[.slice u.aa j u.ac,.slice (some ⟨Q2.heap.size,0,none⟩) 1 1]).run Tryz.prog (Q2.alloc (.cells #[.int .i64 t.a] 3)).drew=.ok (.slice (some ⟨g3,0,none⟩) (j+1) c3) V3:=k7;have l0:=qo q0 (.cells #[.int .i64 t.a] 3);have l3:=qo y1 (.cells #[.int .i64 t.a] 3);have h0:=qo d0 (.cells #[.int .i64 t.a] 3)
     have r1:Hid (∃u,SX H (V3.setCell ⟨q,6,none⟩ (.slice (some ⟨g3,0,none⟩) (j+1) c3)) f N q ⟨some ⟨b,o,none⟩,C,O,D⟩ G u (ry0 G (j+1))):=by
      have e:ry0 G (j+1)=⟨(ry0 G j).tk,(ry0 G j).nt,(ry0 G j).st,(ry0 G j).ex,(ry0 G j).nm++[t.n],(ry0 G j).lv++[t.l],(ry0 G j).az++[t.a],(ry0 G j).rs⟩:=by
       unfold ry0;rw[zn HT.out];simp
      rw[<-e]at s3;exact⟨_,s3⟩
     clear s3 k7 HS
     go_upto_region 14 with fail
     go_region_law(refine zc rfl (.tmp 66) (.tmp 73) rfl rfl (by simp[Act.eval]) (by simp[Act.eval]) q4 ?_)
     all_goals
      go_wp2_with fail;go_roundg (tn - (j+1))
      case measure=>omega
      case rel=>exact⟨j+1,by simp,by omega,Nat.le_refl _,r1⟩
  ·have h9:¬(j:Int)<(tn:Int):=by omega
   obtain⟨W7,t9⟩:∃W7,W7=wr:=⟨_,rfl⟩
   subst wr
   obtain⟨⟨b,o,rfl⟩,p8⟩:(∃b o,lo=some ⟨b,o,none⟩)/\0<m:=by
    obtain⟨x,hx⟩:∃x,x∈lfs G.rs:=⟨_,b0.out.st⟩
    obtain⟨i,hi⟩:=List.getElem?_of_mem hx;obtain⟨b,o,he,-⟩:=jm H5.out.2 hi;have:=(List.getElem?_eq_some_iff.1 hi).1;rw[HM.out]at this;exact⟨⟨b,o,he⟩,by omega⟩
   obtain⟨u,s⟩:=J.out
   have ej:j=tn:=by omega
   subst ej
   have e1:(ry0 G j).nm.length=j:=by unfold ry0;simp;have:=I.out;omega
   obtain⟨g1,c1,V1,ao,c2,V2,M,b8,x1,f1,s1⟩:=s.two ⟨#[]⟩ (lfs G.rs) b o m lc j e1 HM.out H5.out.2 p8 (by omega);obtain⟨-,-,-,-,y1,-,-,-⟩:=sbox s.sp.box;rw[e1]at y1
   have q0:W7.cell? ⟨f,0,none⟩=some (.slice F j C):=by rw[qe s.gx,I.out];rfl
   have b1:Hid (∃u,SY H (V2.setCell ⟨q,4,none⟩ (.slice ao (j+1+m) c2)) f N q ⟨F,C,O,D⟩ G u (sy0 G) []):=by
    have e:sy0 G=⟨(ry0 G j).tk,(ry0 G j).nt,(ry0 G j).st,(ry0 G j).ex,(ry0 G j).nm++⟨#[]⟩ :: lfs G.rs,(ry0 G j).lv,(ry0 G j).az,(ry0 G j).rs⟩:=by
     unfold ry0 sy0 nmG tkG;rw[show G.ts.take j=G.ts from List.take_of_length_le (by rw[I.out];exact Nat.le_refl _)]
     rfl
    rw[<-e]at s1;exact⟨_,s1⟩
   clear s1 s J b6 hg hj
   go_upto_region 16 with (first | (at_builtin;refine Lib.wpList_append_run _ rfl _ _ _ _ rfl _ _ rfl rfl _ _ M ?_) | (at_builtin;refine Lib.wpList_append_run _ rfl _ _ _ _ rfl _ _ rfl rfl _ _ b8 ?_))
   generalize V2.setCell ⟨q,4,none⟩ (.slice ao (j+1+m) c2)=Q at b1 ⊢;clear M b8 x1 f1 y1 q0
   have p1:Q.cell? ⟨f,1,none⟩=some (.string G.s):=by
    obtain⟨u,s⟩:=b1.out;rw[qe s.gx];rfl
   have l8:Hid (Below H.heap.size H Q):=by
    obtain⟨u,s⟩:=b1.out;exact s.sp.bel
   obtain⟨bs,i8⟩:∃bs,(G.s.toList == [])=bs:=⟨_,rfl⟩
   have l9:Hid ((G.s.toList == [])=bs):=i8
   go_upto_if 86 with fail
   clear i8 p1
   go_cut [7] (fun s7 wd=>s7=.string (kc G)/\Hid (wd=Q))
   case first =>
    cases bs
    ·have HE:Hid (kc G=G.s):=by
      show _=_;unfold kc;rw[if_neg (fun e=>by have:=(zo G.s).2 e;rw[l9.out]at this;cases this)]
     go_wp2_with fail;go_meet;exact⟨by rw[HE.out],(rfl:Q=Q)⟩
    ·obtain⟨x,hx⟩:∃x,(lfs G.rs)[0]?=some x:=⟨(lfs G.rs)[0]'(by rw[HM.out];exact p8),List.getElem?_eq_getElem _⟩
     have HE:Hid (kc G=x):=by
      show _=_;unfold kc;rw[if_pos (show G.s=e0 from(zo G.s).1 l9.out)];exact qqq b0.out.ne hx
     obtain⟨b',o',he,d0⟩:=jm (H5.out.2.below l8.out) hx
     cases he
     have h0:Q.cell? ⟨b,o,none⟩=some (.string x):=d0;clear hx d0;go_wp2_with fail;go_meet;exact⟨by rw[HE.out],(rfl:Q=Q)⟩
   case rest =>
    obtain⟨rfl,q7⟩:=hcut;obtain rfl:wc=Q:=q7.out;clear q7 l9
    obtain⟨xi,m5⟩:∃xi,Hid (ix (lfs G.rs) (kc G)=xi):=⟨_,rfl⟩
    have hxi:xi<m:=by have:=qeu b0.out.st;rw[m5.out,HM.out]at this;exact this
    obtain⟨st,b2⟩:∃st,Hid (stG G=st):=⟨_,rfl⟩
    have r2:Hid (((st:Nat):Int)=IntKind.i64.wrap (IntKind.i64.wrap ((j:Int)+1)+(xi:Int))):=by
     show _=_
     have e1:st=j+1+xi:=by
      rw[<-b2.out];unfold stG;rw[m5.out,I.out]
     have e2:IntKind.i64.wrap ((j:Int)+1)=(j:Int)+1:=by rw[IntKind.wrap_i64];omega
     have e3:IntKind.i64.wrap ((j:Int)+1+(xi:Int))=(j:Int)+1+(xi:Int):=by rw[IntKind.wrap_i64];omega
     rw[e2,e3,e1];simp
    have m9:Hid (∀V:World,Row V 1 (some ⟨b,o,none⟩) m lc (strC (lfs G.rs))->Calls Tryz.prog 32 #[.slice (some ⟨b,o,none⟩) m lc,.string (kc G)] V fun e w'=>e=.returned (.int .i64 (xi:Int))/\w'=V):=fun V hV=>by
     have:=qa2 (lfs G.rs) (some ⟨b,o,none⟩) lc (kc G) V (by rw[HM.out];exact hV) (by rw[HM.out];omega)
     rw[HM.out,qc2 b0.out.st,m5.out]at this;exact this
    obtain⟨W9,u4⟩:∃W9,W9=wc:=⟨_,rfl⟩
    subst wc
    go_upto_region 19 with fail
    go_cut [7] (fun s7 wd=>Hid (∃u,SY H wd f N q ⟨F,C,O,D⟩ G u (ry1 G) []))
    case first =>
     obtain⟨u,s⟩:=b1.out
     have z0:W9.cell? ⟨q,0,none⟩=some (.int .i64 (j:Int)):=by
      have:=(sbox s.sp.box).1;rw[this,<-I.out];rfl
     have z2:W9.cell? ⟨q,2,none⟩=some (.int .i64 0):=(sbox s.sp.box).2.2.1;have g2:=(qa4 s.sp.box).2.2.1
     have HF:Hid (∃u,SY H (W9.setCell ⟨q,2,none⟩ (.int .i64 (IntKind.i64.wrap (IntKind.i64.wrap ((j:Int)+1)+(xi:Int))))).drew f N q ⟨F,C,O,D⟩ G u (ry1 G) []):=by
      rw[<-r2.out,<-b2.out];exact⟨u,(s.putSt (stG G)).step (qk _)⟩
     clear s b1
     go_region_with(first | (go_at_call 32;refine(m9.out _ (H5.out.2.below (qd l8.out (qk _)))).mono ?_;rintro e V7 ⟨rfl,rfl⟩))
     all_goals
      go_wp2_with fail;go_meet;exact HF
    case rest =>
     obtain⟨a2,r9⟩:∃a2,a2=wc:=⟨_,rfl⟩
     subst wc;clear b1 m9 l8;obtain⟨u,s⟩:=hcut.out;have hv:Below a2.heap.size a2 (a2.alloc (.cells #[.int .i64 (st:Int)] 3)):=qb _ _
     have l6:(a2.alloc (.cells #[.int .i64 (st:Int)] 3)).ownsRow H.heap.size 3 1 (.slice (some ⟨a2.heap.size,0,none⟩) 1 1) 1 (natC [stG G]):=by
      have:=vz a2 H.heap.size 3 1 1 [.int .i64 (st:Int)] s.sp.bel.size rfl (by omega);unfold natC;rw[b2.out];exact this
     obtain⟨g1,c1,V1,M,x7,f7,s1⟩:=(s.step hv).addRu (⟨-1,[stG G],0,0⟩,some ⟨a2.heap.size,0,none⟩,1) 0 rfl l6 (by omega);rw[qt]at M;have z7:a2.cell? ⟨q,7,none⟩=some (.slice u.ra 0 u.rc):=(sbox s.sp.box).2.2.2.2.2.2.2
     have z2:a2.cell? ⟨q,2,none⟩=some (.int .i64 (st:Int)):=by
      rw[<-b2.out];exact(sbox s.sp.box).2.2.1
     have HS:Hid (∃u qs,SY H (V1.setCell ⟨q,7,none⟩ (.slice (some ⟨g1,0,none⟩) (0+1) c1)) f N q ⟨F,C,O,D⟩ G u (ry2 G 0) qs):=⟨_,_,s1⟩
     clear s s1 l6 hv hcut
     go_upto_region 21 with (at_builtin;refine Lib.wpList_append_run _ rfl _ _ _ _ rfl _ _ rfl rfl _ _ M ?_)
     generalize V1.setCell ⟨q,7,none⟩ (.slice (some ⟨g1,0,none⟩) (0+1) c1)=r3 at HS ⊢;clear M x7 f7 z7 z2
     have p3:r3.cell? ⟨f,3,none⟩=some (.slice O R D):=by
      obtain⟨u,qs,s⟩:=HS.out;rw[qe s.gx,a3.out];rfl
     go_wp2_with fail;clear p3
     go_loopg [8] R (fun kx s8 wr=>∃i:Nat,s8=.int .i64 i/\i<=R/\R - i<=kx/\Hid (∃u qs,SY H wr f N q ⟨F,C,O,D⟩ G u (ry2 G i) qs))
     case atStart=>exact⟨0,rfl,Nat.zero_le _,by omega,HS⟩
     case round =>
      clear HS;obtain⟨i,rfl,hi,hg,J⟩:=hrel;obtain⟨u,qs,s⟩:=J.out;obtain⟨na,nc,la,E,aa,ac,A,B⟩:=u
      obtain⟨nn,r0⟩:∃nn,Hid ((nmG G).length=nn):=⟨_,rfl⟩
      have a4:Hid (sC ⟨na,nc,la,E,aa,ac,A,B⟩ (ry2 G i)=#[.int .i64 (j:Int),.int .i64 (m:Int),.int .i64 (st:Int),.int .i64 G.e,.slice na nn nc,.slice la j E,.slice aa j ac,.slice A (i+1) B]):=by
       show _=_;unfold sC ry2;rw[I.out,HM.out,b2.out,r0.out];simp only[List.length_map,List.length_cons,List.length_take,I.out,a3.out];rw[Nat.min_eq_left hi]
      have p3:wr.cell? ⟨f,3,none⟩=some (.slice O R D):=by rw[qe s.gx,a3.out];rfl
      by_cases p7:i<R
      ·have m6:(i:Int)<(R:Int):=by omega
       obtain⟨r,hr⟩:∃r,G.rs[i]?=some r:=⟨G.rs[i]'(by rw[a3.out];exact p7),List.getElem?_eq_getElem _⟩
       obtain⟨P,X,ya,yc,q5,v0,v1,v2,Y⟩:=(HG.out.rul.below H5.out.1.2.2).at hr;simp only at q5;subst q5
       have r4:P≠q:=by have:=World.block_lt_of_cell? _ _ v0;have:=n5.out;simp only at *;omega
       have HR:Hid (G.rs[i]?=some r):=hr
       have m4:Hid (∀V,Below H.heap.size H V->V.cell? ⟨P,X+i * 3,none⟩=some (.string r.l)/\V.cell? ⟨P,X+i * 3+1,none⟩=some (.slice ya r.r.length yc)/\V.cell? ⟨P,X+i * 3+2,none⟩=some (.string r.p)/\Row V 1 ya r.r.length yc (strC r.r)):=fun V hV=>⟨qj hV v0,qj hV v1,qj hV v2,Y.below hV⟩
       clear v0 v1 v2 Y;obtain⟨d0,d1,d2,Y⟩:=m4.out wr s.sp.bel;obtain⟨p0,p1,p2,-⟩:=box4 s.gx;simp only at p0;rw[I.out]at p0;have d8:=s.sp.box;rw[a4.out]at d8;obtain⟨z0,z1,z2,z3,z4,z5,z6,z7⟩:=box8 d8
       obtain⟨rl,m2⟩:∃rl,Hid (r.r.length=rl):=⟨_,rfl⟩
       rw[m2.out]at d1 Y m4
       obtain⟨ql,n1⟩:∃ql,Hid ((ruG G r).l=ql):=⟨_,rfl⟩
       obtain⟨qn,n2⟩:∃qn,Hid ((ruG G r).r.length=qn):=⟨_,rfl⟩
       obtain⟨qv,n3⟩:∃qv,Hid ((ruG G r).lv=qv):=⟨_,rfl⟩
       obtain⟨qa,n0⟩:∃qa,Hid ((ruG G r).a=qa):=⟨_,rfl⟩
       have d7:Hid (Calls Tryz.prog 33 #[.agg #[.slice F j C,.string G.s,.int .i64 G.e,.slice (some ⟨P,X,none⟩) R D],.agg #[.int .i64 (j:Int),.int .i64 (m:Int),.int .i64 (st:Int),.int .i64 G.e,.slice na nn nc,.slice la j E,.slice aa j ac,.slice A (i+1) B],.agg #[.string r.l,.slice ya rl yc,.string r.p]] wr.drew fun e w'=>∃xa xc,e=.returned (.agg #[.int .i64 ql,.slice xa qn xc,.int .i64 qv,.int .i64 qa])/\(w'.ownsRow H.heap.size 3 1 (.slice xa (ruG G r).r.length xc) (ruG G r).r.length (natC (ruG G r).r)/\SY H w' f N q ⟨F,C,some ⟨P,X,none⟩,D⟩ G ⟨na,nc,la,E,aa,ac,A,B⟩ (ry2 G i) qs)):=by
        have s9:=s.step (qk wr);have r7:=s9.sp.isSp.nm;have:=qlk G ⟨F,C,some ⟨P,X,none⟩,D⟩ (ry2 G i) ⟨na,nc,la,E,aa,ac,A,B⟩ wr.drew (HG.out.below (qd H5.out.1.2.2 s9.sp.bel)) r7 rfl rfl b4.out b0.out r (List.mem_of_getElem? hr) ya yc (by rw[m2.out];exact Y.below (qk _))
        unfold gv at this;simp only at this;rw[I.out,a3.out,a4.out,m2.out]at this;refine this.mono ?_;rintro e w' ⟨xa,xc,rfl,ho,hb⟩;exact⟨xa,xc,by rw[n1.out,n2.out,n3.out,n0.out],zd ho s9.sp.bel.size,s9.step hb⟩
       have l7:Hid (∀(xa:Option Addr) (xc:Nat) (V:World),(V.ownsRow H.heap.size 3 1 (.slice xa (ruG G r).r.length xc) (ruG G r).r.length (natC (ruG G r).r)/\SY H V f N q ⟨F,C,some ⟨P,X,none⟩,D⟩ G ⟨na,nc,la,E,aa,ac,A,B⟩ (ry2 G i) qs)->∃g c V2,(Builtin.append_ #[29,29] 29 #[.slice A (i+1) B,.slice (some ⟨V.heap.size,0,none⟩) 1 1]).run Tryz.prog (V.alloc (.cells #[.int .i64 ql,.slice xa qn xc,.int .i64 qv,.int .i64 qa] 47))=.ok (.slice (some ⟨g,0,none⟩) (i+1+1) c) V2/\V.cell? ⟨q,7,none⟩=some (.slice A (i+1) B)/\V2.cell? ⟨q,7,none⟩=some (.slice A (i+1) B)/\V2.frozen? ⟨q,7,none⟩=false/\Hid (∃u qs,SY H (V2.setCell ⟨q,7,none⟩ (.slice (some ⟨g,0,none⟩) (i+1+1) c)) f N q ⟨F,C,some ⟨P,X,none⟩,D⟩ G u (ry2 G (i+1)) qs)):=fun xa xc V hV=>by
        obtain⟨ho,sV⟩:=hV
        have en:(ry2 G i).rs.length=i+1:=by
         unfold ry2;simp only[List.length_map,List.length_cons,List.length_take,a3.out];rw[Nat.min_eq_left hi]
        obtain⟨g,c,V2,M,x7,f7,s1⟩:=sV.addRu (ruG G r,xa,xc) (i+1) en ho (by omega);simp only at M x7;rw[n1.out,n2.out,n3.out,n0.out]at M;have d8:=sV.sp.box;rw[a4.out]at d8
        have e:ry2 G (i+1)=⟨(ry2 G i).tk,(ry2 G i).nt,(ry2 G i).st,(ry2 G i).ex,(ry2 G i).nm,(ry2 G i).lv,(ry2 G i).az,(ry2 G i).rs++[ruG G r]⟩:=by
         unfold ry2;rw[zn HR.out];simp
        have p6:∃u qs,SY H (V2.setCell ⟨q,7,none⟩ (.slice (some ⟨g,0,none⟩) (i+1+1) c)) f N q ⟨F,C,some ⟨P,X,none⟩,D⟩ G u (ry2 G (i+1)) qs:=by
         rw[e];exact⟨_,_,s1⟩
        exact⟨g,c,V2,M,(box8 d8).2.2.2.2.2.2.2,x7,f7,p6⟩
       have i7:Hid (∀(V:World) (h3:SHd) (S3:Sp) (q3:List (SR × Option Addr × Nat)),SY H V f N q ⟨F,C,some ⟨P,X,none⟩,D⟩ G h3 S3 q3->(V.cell? ⟨f,0,none⟩=some (.slice F j C)/\V.cell? ⟨f,1,none⟩=some (.string G.s)/\V.cell? ⟨f,2,none⟩=some (.int .i64 G.e)/\V.cell? ⟨f,3,none⟩=some (.slice (some ⟨P,X,none⟩) R D)/\V.cell? ⟨P,X+i * 3,none⟩=some (.string r.l)/\V.cell? ⟨P,X+i * 3+1,none⟩=some (.slice ya rl yc)/\V.cell? ⟨P,X+i * 3+2,none⟩=some (.string r.p))):=fun V h3 S3 q3 sV=>by
        obtain⟨u0,u1,u2,u3⟩:=box4 sV.gx;simp only at u0 u3;rw[I.out]at u0;rw[a3.out]at u3;obtain⟨v0,v1,v2,-⟩:=m4.out V sV.sp.bel;exact⟨u0,u1,u2,u3,v0,v1,v2⟩
       have i5:Hid (∀(V:World) (v:Value) (h3:SHd) (S3:Sp) (q3:List (SR × Option Addr × Nat)),SY H (V.setCell ⟨q,7,none⟩ v) f N q ⟨F,C,some ⟨P,X,none⟩,D⟩ G h3 S3 q3->(V.cell? ⟨f,0,none⟩=some (.slice F j C)/\V.cell? ⟨f,1,none⟩=some (.string G.s)/\V.cell? ⟨f,2,none⟩=some (.int .i64 G.e)/\V.cell? ⟨f,3,none⟩=some (.slice (some ⟨P,X,none⟩) R D)/\V.cell? ⟨P,X+i * 3,none⟩=some (.string r.l)/\V.cell? ⟨P,X+i * 3+1,none⟩=some (.slice ya rl yc)/\V.cell? ⟨P,X+i * 3+2,none⟩=some (.string r.p))/\((V.setCell ⟨q,7,none⟩ v).cell? ⟨f,0,none⟩=some (.slice F j C)/\(V.setCell ⟨q,7,none⟩ v).cell? ⟨f,1,none⟩=some (.string G.s)/\(V.setCell ⟨q,7,none⟩ v).cell? ⟨f,2,none⟩=some (.int .i64 G.e)/\(V.setCell ⟨q,7,none⟩ v).cell? ⟨f,3,none⟩=some (.slice (some ⟨P,X,none⟩) R D)/\(V.setCell ⟨q,7,none⟩ v).cell? ⟨P,X+i * 3,none⟩=some (.string r.l)/\(V.setCell ⟨q,7,none⟩ v).cell? ⟨P,X+i * 3+1,none⟩=some (.slice ya rl yc)/\(V.setCell ⟨q,7,none⟩ v).cell? ⟨P,X+i * 3+2,none⟩=some (.string r.p))):=fun V v h3 S3 q3 sV=>by
        have hs:=i7.out _ _ _ _ sV
        have r5:q≠f:=fun e=>qr ⟨_,sV.gx⟩ ⟨_,sV.sp.box⟩ (by decide) e.symm
        have i8:q≠P:=fun e=>r4 e.symm
        refine⟨?_,hs⟩;obtain⟨k0,k1,k2,k3,k4,k5,k6⟩:=hs;rw[World.cell?_setCell_far _ _ _ _ r5]at k0 k1 k2 k3;rw[World.cell?_setCell_far _ _ _ _ i8]at k4 k5 k6;exact⟨k0,k1,k2,k3,k4,k5,k6⟩
       clear s J hr Y d8 a4
       go_upto_region 24 with fail
       refine wp_region_held_drew (S:=(fun w'=>w'.cell? ⟨f,0,none⟩=some (.slice F j C)/\w'.cell? ⟨f,1,none⟩=some (.string G.s)/\w'.cell? ⟨f,2,none⟩=some (.int .i64 G.e)/\w'.cell? ⟨f,3,none⟩=some (.slice (some ⟨P,X,none⟩) R D)/\w'.cell? ⟨P,X+i * 3,none⟩=some (.string r.l)/\w'.cell? ⟨P,X+i * 3+1,none⟩=some (.slice ya rl yc)/\w'.cell? ⟨P,X+i * 3+2,none⟩=some (.string r.p))) (by kernel_rfl) ⟨p0,p1,p2,p3,d0,d1,d2⟩ (fun d=>?_);refine wpAnyH_take (i:=0) (v:=(.pointer (some ⟨q,7,none⟩))) rfl (by kernel_rfl) (by kernel_rfl) (by kernel_rfl) (fun _ _ _ h=>h) (Or.inl ⟨by rfl,fun w9 L=>?_⟩) d ?_
       ·obtain⟨a5,a0,a1,a6,a7,a8,a9⟩:=L
        go_simp
        try (with_reducible rfl)
       simp only[Act.put];refine wpAnyH_take (i:=2) (v:=(.agg #[.slice F j C,.string G.s,.int .i64 G.e,.slice (some ⟨P,X,none⟩) R D])) rfl (by kernel_rfl) (by kernel_rfl) (by kernel_rfl) (fun _ _ _ h=>h) (Or.inl ⟨by rfl,fun w9 L=>?_⟩) d ?_
       ·obtain⟨a5,a0,a1,a6,a7,a8,a9⟩:=L
        go_simp
        try (with_reducible rfl)
       simp only[Act.put];refine wpAnyH_take (i:=4) (v:=(.pointer (some ⟨f,3,none⟩))) rfl (by kernel_rfl) (by kernel_rfl) (by kernel_rfl) (fun _ _ _ h=>h) (Or.inl ⟨by rfl,fun w9 L=>?_⟩) d ?_
       ·obtain⟨a5,a0,a1,a6,a7,a8,a9⟩:=L
        go_simp
        try (with_reducible rfl)
       simp only[Act.put];refine wpAnyH_take (i:=5) (v:=(.slice (some ⟨P,X,none⟩) R D)) rfl (by kernel_rfl) (by kernel_rfl) (by kernel_rfl) (fun _ _ _ h=>h) (Or.inl ⟨by rfl,fun w9 L=>?_⟩) d ?_
       ·obtain⟨a5,a0,a1,a6,a7,a8,a9⟩:=L
        go_simp
        try (with_reducible rfl)
       simp only[Act.put];refine wpAnyH_take (i:=6) (v:=(.int .i64 (i:Int))) rfl (by kernel_rfl) (by kernel_rfl) (by kernel_rfl) (fun _ _ _ h=>h) (Or.inl ⟨by rfl,fun w9 L=>?_⟩) d ?_
       ·obtain⟨a5,a0,a1,a6,a7,a8,a9⟩:=L
        go_simp
        try (with_reducible rfl)
       simp only[Act.put];refine wpAnyH_take (i:=7) (v:=(.pointer (some ⟨P,X+i * 3,none⟩))) rfl (by kernel_rfl) (by kernel_rfl) (by kernel_rfl) (fun _ _ _ h=>h) (Or.inl ⟨by rfl,fun w9 L=>?_⟩) d ?_
       ·obtain⟨a5,a0,a1,a6,a7,a8,a9⟩:=L
        go_simp
        try (with_reducible rfl)
       simp only[Act.put];refine wpAnyH_take (i:=8) (v:=(.agg #[.string r.l,.slice ya rl yc,.string r.p])) rfl (by kernel_rfl) (by kernel_rfl) (by kernel_rfl) (fun _ _ _ h=>h) (Or.inl ⟨by rfl,fun w9 L=>?_⟩) d ?_
       ·obtain⟨a5,a0,a1,a6,a7,a8,a9⟩:=L
        go_simp
        try (with_reducible rfl)
       simp only[Act.put];refine wpAnyH_ready (rs:=[1,3]) (by kernel_rfl) (by simp) ?_;refine AllReadyH.cons rfl (fun K z=>?_) (AllReadyH.cons rfl (fun K z=>?_) AllReadyH.nil)
       ·skip
        go_simp
        refine z.out _ _ ⟨p0,p1,p2,p3,d0,d1,d2⟩ (fun d=>?_);clear z K;refine wpAnyH_ready (rs:=[3]) (by kernel_rfl) (by simp) ?_;refine AllReadyH.cons rfl (fun K z=>?_) AllReadyH.nil
        go_simp
        refine z.out _ _ ⟨p0,p1,p2,p3,d0,d1,d2⟩ (fun d=>?_);clear z K;refine wpAnyH_ready (rs:=[9]) (by kernel_rfl) (by simp) ?_;refine AllReadyH.cons rfl (fun K z=>?_) AllReadyH.nil;refine jy rfl 33 #[.agg #[.slice F j C,.string G.s,.int .i64 G.e,.slice (some ⟨P,X,none⟩) R D],.agg #[.int .i64 (j:Int),.int .i64 (m:Int),.int .i64 (st:Int),.int .i64 G.e,.slice na nn nc,.slice la j E,.slice aa j ac,.slice A (i+1) B],.agg #[.string r.l,.slice ya rl yc,.string r.p]] (fun xa xc=>.agg #[.int .i64 ql,.slice xa qn xc,.int .i64 qv,.int .i64 qa]) _ (by simp[Act.eval,go_sem]) d7.out (fun xa xc V hV=>?_);obtain⟨g,c,V2,M,y7,x7,f7,HN⟩:=l7.out xa xc V hV;have h8:=i7.out V _ _ _ hV.2;obtain⟨t0,t1,t2,t3,t4,t5,t6⟩:=h8;refine z.out _ _ ⟨t0,t1,t2,t3,t4,t5,t6⟩ (fun d=>?_);clear z K hV;simp only[Act.put];refine wpAnyH_ready (rs:=[10]) (by kernel_rfl) (by simp) ?_;refine AllReadyH.cons rfl (fun K z=>?_) AllReadyH.nil;have m8:=qo y7 (.cells #[.int .i64 ql,.slice xa qn xc,.int .i64 qv,.int .i64 qa] 47)
        go_simp
        refine z.out _ _ ⟨qo t0 _,qo t1 _,qo t2 _,qo t3 _,qo t4 _,qo t5 _,qo t6 _⟩ (fun d=>?_);clear z K;refine wpAnyH_ready (rs:=[11]) (by kernel_rfl) (by simp) ?_;refine AllReadyH.cons rfl (fun K z=>?_) AllReadyH.nil;obtain⟨hq,qq,sN⟩:=HN.out;have Z:=i5.out _ _ _ _ _ sN;clear sN;refine zc rfl (.tmp 115) (.tmp 124) rfl rfl (by simp[Act.eval]) (by simp[Act.eval]) M (z.out _ _ Z.1 (fun d=>?_));simp only[Act.put];clear z K;refine wpAnyH_take (i:=12) (v:=(.pointer (some ⟨q,7,none⟩))) rfl (by kernel_rfl) (by kernel_rfl) (by kernel_rfl) (fun _ _ _ h=>h) (Or.inl ⟨by rfl,fun w9 L=>?_⟩) d ?_
        ·obtain⟨a5,a0,a1,a6,a7,a8,a9⟩:=L
         go_simp
         try (with_reducible rfl)
        simp only[Act.put];refine wpAnyH_ready (rs:=[13]) (by kernel_rfl) (by simp) ?_;refine AllReadyH.cons rfl (fun K z=>?_) AllReadyH.nil
        go_simp
        refine z.out _ _ Z.2 (fun d=>?_);clear z K Z;refine wpAnyH_done (by kernel_rfl) ?_ _;go_wp2_with fail;go_roundg (R - (i+1))
        case measure=>omega
        case rel=>exact⟨i+1,by simp,by omega,Nat.le_refl _,HN⟩
       ·skip
        go_simp
        refine z.out _ _ ⟨p0,p1,p2,p3,d0,d1,d2⟩ (fun d=>?_);clear z K;refine wpAnyH_ready (rs:=[1,9]) (by kernel_rfl) (by simp) ?_;refine AllReadyH.cons rfl (fun K z=>?_) (AllReadyH.cons rfl (fun K z=>?_) AllReadyH.nil)
        ·skip
         go_simp
         refine z.out _ _ ⟨p0,p1,p2,p3,d0,d1,d2⟩ (fun d=>?_);clear z K;refine wpAnyH_ready (rs:=[9]) (by kernel_rfl) (by simp) ?_;refine AllReadyH.cons rfl (fun K z=>?_) AllReadyH.nil;refine jy rfl 33 #[.agg #[.slice F j C,.string G.s,.int .i64 G.e,.slice (some ⟨P,X,none⟩) R D],.agg #[.int .i64 (j:Int),.int .i64 (m:Int),.int .i64 (st:Int),.int .i64 G.e,.slice na nn nc,.slice la j E,.slice aa j ac,.slice A (i+1) B],.agg #[.string r.l,.slice ya rl yc,.string r.p]] (fun xa xc=>.agg #[.int .i64 ql,.slice xa qn xc,.int .i64 qv,.int .i64 qa]) _ (by simp[Act.eval,go_sem]) d7.out (fun xa xc V hV=>?_);obtain⟨g,c,V2,M,y7,x7,f7,HN⟩:=l7.out xa xc V hV;have h8:=i7.out V _ _ _ hV.2;obtain⟨t0,t1,t2,t3,t4,t5,t6⟩:=h8;refine z.out _ _ ⟨t0,t1,t2,t3,t4,t5,t6⟩ (fun d=>?_);clear z K hV;simp only[Act.put];refine wpAnyH_ready (rs:=[10]) (by kernel_rfl) (by simp) ?_;refine AllReadyH.cons rfl (fun K z=>?_) AllReadyH.nil;have m8:=qo y7 (.cells #[.int .i64 ql,.slice xa qn xc,.int .i64 qv,.int .i64 qa] 47)
         go_simp
         refine z.out _ _ ⟨qo t0 _,qo t1 _,qo t2 _,qo t3 _,qo t4 _,qo t5 _,qo t6 _⟩ (fun d=>?_);clear z K;refine wpAnyH_ready (rs:=[11]) (by kernel_rfl) (by simp) ?_;refine AllReadyH.cons rfl (fun K z=>?_) AllReadyH.nil;obtain⟨hq,qq,sN⟩:=HN.out;have Z:=i5.out _ _ _ _ _ sN;clear sN;refine zc rfl (.tmp 115) (.tmp 124) rfl rfl (by simp[Act.eval]) (by simp[Act.eval]) M (z.out _ _ Z.1 (fun d=>?_));simp only[Act.put];clear z K;refine wpAnyH_take (i:=12) (v:=(.pointer (some ⟨q,7,none⟩))) rfl (by kernel_rfl) (by kernel_rfl) (by kernel_rfl) (fun _ _ _ h=>h) (Or.inl ⟨by rfl,fun w9 L=>?_⟩) d ?_
         ·obtain⟨a5,a0,a1,a6,a7,a8,a9⟩:=L
          go_simp
          try (with_reducible rfl)
         simp only[Act.put];refine wpAnyH_ready (rs:=[13]) (by kernel_rfl) (by simp) ?_;refine AllReadyH.cons rfl (fun K z=>?_) AllReadyH.nil
         go_simp
         refine z.out _ _ Z.2 (fun d=>?_);clear z K Z;refine wpAnyH_done (by kernel_rfl) ?_ _;go_wp2_with fail;go_roundg (R - (i+1))
         case measure=>omega
         case rel=>exact⟨i+1,by simp,by omega,Nat.le_refl _,HN⟩
        ·skip
         refine jy rfl 33 #[.agg #[.slice F j C,.string G.s,.int .i64 G.e,.slice (some ⟨P,X,none⟩) R D],.agg #[.int .i64 (j:Int),.int .i64 (m:Int),.int .i64 (st:Int),.int .i64 G.e,.slice na nn nc,.slice la j E,.slice aa j ac,.slice A (i+1) B],.agg #[.string r.l,.slice ya rl yc,.string r.p]] (fun xa xc=>.agg #[.int .i64 ql,.slice xa qn xc,.int .i64 qv,.int .i64 qa]) _ (by simp[Act.eval,go_sem]) d7.out (fun xa xc V hV=>?_);obtain⟨g,c,V2,M,y7,x7,f7,HN⟩:=l7.out xa xc V hV;have h8:=i7.out V _ _ _ hV.2;obtain⟨t0,t1,t2,t3,t4,t5,t6⟩:=h8;refine z.out _ _ ⟨t0,t1,t2,t3,t4,t5,t6⟩ (fun d=>?_);clear z K hV;simp only[Act.put];refine wpAnyH_ready (rs:=[1,10]) (by kernel_rfl) (by simp) ?_;refine AllReadyH.cons rfl (fun K z=>?_) (AllReadyH.cons rfl (fun K z=>?_) AllReadyH.nil)
         ·skip
          go_simp
          refine z.out _ _ ⟨t0,t1,t2,t3,t4,t5,t6⟩ (fun d=>?_);clear z K;refine wpAnyH_ready (rs:=[10]) (by kernel_rfl) (by simp) ?_;refine AllReadyH.cons rfl (fun K z=>?_) AllReadyH.nil;have m8:=qo y7 (.cells #[.int .i64 ql,.slice xa qn xc,.int .i64 qv,.int .i64 qa] 47)
          go_simp
          refine z.out _ _ ⟨qo t0 _,qo t1 _,qo t2 _,qo t3 _,qo t4 _,qo t5 _,qo t6 _⟩ (fun d=>?_);clear z K;refine wpAnyH_ready (rs:=[11]) (by kernel_rfl) (by simp) ?_;refine AllReadyH.cons rfl (fun K z=>?_) AllReadyH.nil;obtain⟨hq,qq,sN⟩:=HN.out;have Z:=i5.out _ _ _ _ _ sN;clear sN;refine zc rfl (.tmp 115) (.tmp 124) rfl rfl (by simp[Act.eval]) (by simp[Act.eval]) M (z.out _ _ Z.1 (fun d=>?_));simp only[Act.put];clear z K;refine wpAnyH_take (i:=12) (v:=(.pointer (some ⟨q,7,none⟩))) rfl (by kernel_rfl) (by kernel_rfl) (by kernel_rfl) (fun _ _ _ h=>h) (Or.inl ⟨by rfl,fun w9 L=>?_⟩) d ?_
          ·obtain⟨a5,a0,a1,a6,a7,a8,a9⟩:=L
           go_simp
           try (with_reducible rfl)
          simp only[Act.put];refine wpAnyH_ready (rs:=[13]) (by kernel_rfl) (by simp) ?_;refine AllReadyH.cons rfl (fun K z=>?_) AllReadyH.nil
          go_simp
          refine z.out _ _ Z.2 (fun d=>?_);clear z K Z;refine wpAnyH_done (by kernel_rfl) ?_ _;go_wp2_with fail;go_roundg (R - (i+1))
          case measure=>omega
          case rel=>exact⟨i+1,by simp,by omega,Nat.le_refl _,HN⟩
         ·skip
          have m8:=qo y7 (.cells #[.int .i64 ql,.slice xa qn xc,.int .i64 qv,.int .i64 qa] 47)
          go_simp
          refine z.out _ _ ⟨qo t0 _,qo t1 _,qo t2 _,qo t3 _,qo t4 _,qo t5 _,qo t6 _⟩ (fun d=>?_);clear z K;refine wpAnyH_ready (rs:=[1]) (by kernel_rfl) (by simp) ?_;refine AllReadyH.cons rfl (fun K z=>?_) AllReadyH.nil
          go_simp
          refine z.out _ _ ⟨qo t0 _,qo t1 _,qo t2 _,qo t3 _,qo t4 _,qo t5 _,qo t6 _⟩ (fun d=>?_);clear z K;refine wpAnyH_ready (rs:=[11]) (by kernel_rfl) (by simp) ?_;refine AllReadyH.cons rfl (fun K z=>?_) AllReadyH.nil;obtain⟨hq,qq,sN⟩:=HN.out;have Z:=i5.out _ _ _ _ _ sN;clear sN;refine zc rfl (.tmp 115) (.tmp 124) rfl rfl (by simp[Act.eval]) (by simp[Act.eval]) M (z.out _ _ Z.1 (fun d=>?_));simp only[Act.put];clear z K;refine wpAnyH_take (i:=12) (v:=(.pointer (some ⟨q,7,none⟩))) rfl (by kernel_rfl) (by kernel_rfl) (by kernel_rfl) (fun _ _ _ h=>h) (Or.inl ⟨by rfl,fun w9 L=>?_⟩) d ?_
          ·obtain⟨a5,a0,a1,a6,a7,a8,a9⟩:=L
           go_simp
           try (with_reducible rfl)
          simp only[Act.put];refine wpAnyH_ready (rs:=[13]) (by kernel_rfl) (by simp) ?_;refine AllReadyH.cons rfl (fun K z=>?_) AllReadyH.nil
          go_simp
          refine z.out _ _ Z.2 (fun d=>?_);clear z K Z;refine wpAnyH_done (by kernel_rfl) ?_ _;go_wp2_with fail;go_roundg (R - (i+1))
          case measure=>omega
          case rel=>exact⟨i+1,by simp,by omega,Nat.le_refl _,HN⟩
      ·have m6:¬(i:Int)<(R:Int):=by omega
       have ei:i=R:=by omega
       subst ei
       obtain⟨w8,u8⟩:∃w8,w8=wr:=⟨_,rfl⟩
       subst wr
       have e9:ry2 G i=spG G:=by rw[<-a3.out];exact qrp G
       rw[e9]at s a4
       obtain⟨n,m7⟩:∃n,n=j+1+m:=⟨_,rfl⟩
       have d5:Hid (n=(spG G).tk+1+(spG G).nt/\(spG G).tk=j):=by
        have e1:(spG G).tk=j:=I.out;have e2:(spG G).nt=m:=HM.out;refine⟨?_,e1⟩;rw[e1,e2];exact m7
       have m1:Hid (n=j+1+m):=m7;clear m7
       have n9:Hid (∀V:World,SY H V f N q ⟨F,C,O,D⟩ G ⟨na,nc,la,E,aa,ac,A,B⟩ (spG G) qs->Calls Tryz.prog 15 #[.agg #[.int .i64 (j:Int),.int .i64 (m:Int),.int .i64 (st:Int),.int .i64 G.e,.slice na nn nc,.slice la j E,.slice aa j ac,.slice A (i+1) B]] V fun e w'=>BRes V w' n (Der (spG G)) e):=fun V sV=>by
        have:=qi5 V _ (spG G) n d5.out.1 (qei b4.out f8.out b0.out) sV.sp.isSp;unfold sv at this;rw[a4.out]at this;exact this
       have d7:Hid (∀V:World,SY H V f N q ⟨F,C,O,D⟩ G ⟨na,nc,la,E,aa,ac,A,B⟩ (spG G) qs->Calls Tryz.prog 16 #[.agg #[.int .i64 (j:Int),.int .i64 (m:Int),.int .i64 (st:Int),.int .i64 G.e,.slice na nn nc,.slice la j E,.slice aa j ac,.slice A (i+1) B]] V fun e w'=>BRes V w' n (Rch (spG G)) e):=fun V sV=>by
        have:=qhq V _ (spG G) n d5.out.1 (qei b4.out f8.out b0.out) sV.sp.isSp;unfold sv at this;rw[a4.out]at this;exact this
       have d9:Hid (∀V:World,SY H V f N q ⟨F,C,O,D⟩ G ⟨na,nc,la,E,aa,ac,A,B⟩ (spG G) qs->V.heap[q]?=some (.cells #[.int .i64 (j:Int),.int .i64 (m:Int),.int .i64 (st:Int),.int .i64 G.e,.slice na nn nc,.slice la j E,.slice aa j ac,.slice A (i+1) B] 31 (0,0))):=fun V sV=>by
        have:=sV.sp.box;rw[a4.out]at this;exact this
       have g8:Hid (SY H w8.drew f N q ⟨F,C,O,D⟩ G ⟨na,nc,la,E,aa,ac,A,B⟩ (spG G) qs):=s.step (qk _);obtain⟨c0,o0,o3,c3,c4,c5,c6,c7⟩:=box8 (d9.out w8 s);have n6:Hid (sC ⟨na,nc,la,E,aa,ac,A,B⟩ (spG G)=#[.int .i64 (j:Int),.int .i64 (m:Int),.int .i64 (st:Int),.int .i64 G.e,.slice na nn nc,.slice la j E,.slice aa j ac,.slice A (i+1) B]):=a4.out;clear s J a4
       go_upto_region 25 with fail
       go_cut [9,10] (fun s9 s10 wd=>∃f1 f2:Nat,s9=.slice (some ⟨f1,0,none⟩) n n/\s10=.slice (some ⟨f2,0,none⟩) n n/\Hid (∃d1 d2:List Bool,d1.length=n/\d2.length=n/\ko (Der (spG G)) d1/\ko (Rch (spG G)) d2/\wd.ownsRow 0 4 1 (.slice (some ⟨f1,0,none⟩) n n) n (booC d1)/\wd.ownsRow 0 4 1 (.slice (some ⟨f2,0,none⟩) n n) n (booC d2)/\SY H wd f N q ⟨F,C,O,D⟩ G ⟨na,nc,la,E,aa,ac,A,B⟩ (spG G) qs))
       case first =>
        go_region_with(first
         | (go_at_call 15;refine(n9.out _ (by first | exact g8.out | exact b9.out)).mono ?_;rintro e VY ⟨fy,dy,rfl,ly,oy,ty,h7⟩;have c8:Hid (SY H VY f N q ⟨F,C,O,D⟩ G ⟨na,nc,la,E,aa,ac,A,B⟩ (spG G) qs):=(by first | exact g8.out.step h7 | exact b9.out.step h7);obtain⟨y0,y1,y2,y3,y4,y5,y6,y7⟩:=box8 (d9.out VY c8.out))
         | (go_at_call 16;refine(d7.out _ (by first | exact g8.out | exact c8.out)).mono ?_;rintro e VR ⟨fr,dr,rfl,lr,or_,tr,h6⟩;have b9:Hid (SY H VR f N q ⟨F,C,O,D⟩ G ⟨na,nc,la,E,aa,ac,A,B⟩ (spG G) qs):=(by first | exact g8.out.step h6 | exact c8.out.step h6);obtain⟨x0,x1,x2,x3,x4,x5,x6,x7⟩:=box8 (d9.out VR b9.out)))
        all_goals first
         | (have HF:Hid (∃d1 d2:List Bool,d1.length=n/\d2.length=n/\ko (Der (spG G)) d1/\ko (Rch (spG G)) d2/\VR.ownsRow 0 4 1 (.slice (some ⟨fy,0,none⟩) n n) n (booC d1)/\VR.ownsRow 0 4 1 (.slice (some ⟨fr,0,none⟩) n n) n (booC d2)/\SY H VR f N q ⟨F,C,O,D⟩ G ⟨na,nc,la,E,aa,ac,A,B⟩ (spG G) qs):=⟨dy,dr,ly,lr,ty,tr,zw (zd oy (Nat.zero_le _)) h6,zd or_ (Nat.zero_le _),b9.out⟩
            clear y0 y1 y2 y3 y4 y5 y6 y7 x0 x1 x2 x3 x4 x5 x6 x7 oy or_ ly lr ty tr h7 h6;go_wp2_with fail;go_meet
            exact⟨fy,fr,rfl,rfl,HF⟩)
         | (have HF:Hid (∃d1 d2:List Bool,d1.length=n/\d2.length=n/\ko (Der (spG G)) d1/\ko (Rch (spG G)) d2/\VY.ownsRow 0 4 1 (.slice (some ⟨fy,0,none⟩) n n) n (booC d1)/\VY.ownsRow 0 4 1 (.slice (some ⟨fr,0,none⟩) n n) n (booC d2)/\SY H VY f N q ⟨F,C,O,D⟩ G ⟨na,nc,la,E,aa,ac,A,B⟩ (spG G) qs):=⟨dy,dr,ly,lr,ty,tr,zd oy (Nat.zero_le _),zw (zd or_ (Nat.zero_le _)) h7,c8.out⟩
            clear y0 y1 y2 y3 y4 y5 y6 y7 x0 x1 x2 x3 x4 x5 x6 x7 oy or_ ly lr ty tr h7 h6;go_wp2_with fail;go_meet
            exact⟨fy,fr,rfl,rfl,HF⟩)
       case rest =>
        obtain⟨f1,f2,rfl,rfl,J0⟩:=hcut
        obtain⟨w9,u9⟩:∃w9,w9=wc:=⟨_,rfl⟩
        subst wc;clear c0 o0 o3 c3 c4 c5 c6 c7 n9 d7 g8;obtain⟨d1,d2,l1,l2,t1,t2,o1,o2,s9⟩:=J0.out
        have HJ:Hid (d1.length=n/\d2.length=n/\ko (Der (spG G)) d1/\ko (Rch (spG G)) d2/\w9.ownsRow 0 4 1 (.slice (some ⟨f1,0,none⟩) n n) n (booC d1)/\w9.ownsRow 0 4 1 (.slice (some ⟨f2,0,none⟩) n n) n (booC d2)/\SY H w9 f N q ⟨F,C,O,D⟩ G ⟨na,nc,la,E,aa,ac,A,B⟩ (spG G) qs):=⟨l1,l2,t1,t2,o1,o2,s9⟩
        obtain⟨c0,o0,o3,c3,c4,c5,c6,c7⟩:=box8 (d9.out w9 s9);obtain⟨z0,z1,z2,z3,z4,z5,z6,z7⟩:=box8 s9.rx;obtain⟨g0,s5,g2,g3,g4,g5,g6,g7⟩:=qa4 s9.rx
        have HF:Hid (∀v0 v1 v2 v3 v4 v5 v6 v7,IsSp (set8 w9 N v0 v1 v2 v3 v4 v5 v6 v7) ⟨na,nc,la,E,aa,ac,A,B⟩ (spG G)/\Below w.heap.size w (set8 w9 N v0 v1 v2 v3 v4 v5 v6 v7)):=fun v0 v1 v2 v3 v4 v5 v6 v7=>⟨(s9.sp.own.set8 ⟨_,s9.rx⟩).isSp,jd (qd H5.out.1.2.2 s9.sp.bel) f9.out⟩
        clear l1 l2 t1 t2 o1 o2 s9 J0 d9;go_wp2_with fail
        go_loopg [11] n (fun kx s11 wr=>∃x:Nat,s11=.int .i64 x/\j+1<=x/\x<=n/\n - x<=kx/\Hid (wr=w9/\∀y,j<y->y<x->Der (spG G) y/\Rch (spG G) y))
        case atStart=>exact⟨j+1,by simp,Nat.le_refl _,by have:=m1.out;omega,by omega,(⟨rfl,fun x h1 h2=>by omega⟩:w9=w9/\∀y,j<y->y<j+1->Der (spG G) y/\Rch (spG G) y)⟩
        case round =>
         obtain⟨x,rfl,v9,hx,b3,J⟩:=hrel;obtain⟨r8,hJ⟩:=J.out;subst r8;have HX:Hid (∀y,j<y->y<x->Der (spG G) y/\Rch (spG G) y):=hJ;clear J hJ
         by_cases b6:x<n
         ·have h9:(x:Int)<=(j:Int)+(m:Int):=by have:=m1.out;omega
          have s0:(x:Int)<(n:Int):=by omega
          have q1:=qc3 HJ.out.2.2.2.2.1 HJ.out.1 b6;have q2:=qc3 HJ.out.2.2.2.2.2.1 HJ.out.2.1 b6
          obtain⟨x1,n7⟩:∃x1,Hid (isF d1 x=x1):=⟨_,rfl⟩
          obtain⟨x2,n8⟩:∃x2,Hid (isF d2 x=x2):=⟨_,rfl⟩
          rw[n7.out]at q1;rw[n8.out]at q2
          have T1:Hid (x1=true↔Der (spG G) x):=by rw[<-n7.out];exact qav HJ.out.2.2.1 (by rw[HJ.out.1];exact b6)
          have T2:Hid (x2=true↔Rch (spG G) x):=by rw[<-n8.out];exact qav HJ.out.2.2.2.1 (by rw[HJ.out.2.1];exact b6)
          have g9:(¬Der (spG G) x\/¬Rch (spG G) x)->Hid (k=8):=fun e=>by
           have hu:yd (spG G):=⟨x,by have:=d5.out.2;omega,by have:=d5.out.1;omega,e⟩
           rcases HK.out with e | e | e | e | e
           ·exact absurd b4.out e.2
           ·exact absurd e.2.2 f8.out
           ·exact absurd b0.out e.2.2.2
           ·exact e.1
           ·exact absurd hu e.2.2.2.2
          cases x1
          ·have T:=g9 (.inl (fun e=>by have:=T1.out.2 e;cases this))
           clear g9;go_wp2_with fail;refine bodyPost_ret (v:=.tuple #[.agg zC,.int .i64 8]) (by unfold zC sC;simp[results,Tryz.results10,go_sem, *]) rfl ?_
           exact⟨.inl ⟨by rw[T.out];decide,by rw[T.out]⟩,(HF.out _ _ _ _ _ _ _ _).2⟩
          ·cases x2
           ·have T:=g9 (.inr (fun e=>by have:=T2.out.2 e;cases this))
            clear g9;go_wp2_with fail;refine bodyPost_ret (v:=.tuple #[.agg zC,.int .i64 8]) (by unfold zC sC;simp[results,Tryz.results10,go_sem, *]) rfl ?_
            exact⟨.inl ⟨by rw[T.out];decide,by rw[T.out]⟩,(HF.out _ _ _ _ _ _ _ _).2⟩
           ·have q8:Hid (∀y,j<y->y<x+1->Der (spG G) y/\Rch (spG G) y):=fun y h1 h2=>by
             rcases Nat.lt_or_ge y x with h3 | h3
             ·exact HX.out y h1 h3
             ·have:y=x:=by omega
              subst this;exact⟨T1.out.1 rfl,T2.out.1 rfl⟩
            clear g9;go_wp2_with fail;go_roundg (n - (x+1))
            case measure=>omega
            case rel=>exact⟨x+1,by simp,by omega,by omega,Nat.le_refl _,(⟨rfl,q8.out⟩:wr=wr/\∀y,j<y->y<x+1->Der (spG G) y/\Rch (spG G) y)⟩
         ·have h9:¬(x:Int)<=(j:Int)+(m:Int):=by have:=m1.out;omega
          have T:Hid (k=0):=by
           have hu:¬yd (spG G):=fun⟨y,h1,h2,h3⟩=>by
            have h4:=HX.out y (by have:=d5.out.2;omega) (by have:=d5.out.1;omega)
            rcases h3 with h3 | h3
            ·exact absurd h4.1 h3
            ·exact absurd h4.2 h3
           rcases HK.out with e | e | e | e | e
           ·exact absurd b4.out e.2
           ·exact absurd e.2.2 f8.out
           ·exact absurd b0.out e.2.2.2
           ·exact absurd e.2.2.2.2 hu
           ·exact e.1
          go_wp2_with fail;refine bodyPost_ret (v:=.tuple #[.agg #[.int .i64 (j:Int),.int .i64 (m:Int),.int .i64 (st:Int),.int .i64 G.e,.slice na nn nc,.slice la j E,.slice aa j ac,.slice A (i+1) B],.int .i64 0]) (by simp[results,Tryz.results10,go_sem, *]) rfl ?_;exact⟨.inr ⟨T.out,⟨na,nc,la,E,aa,ac,A,B⟩,by unfold sv;rw[n6.out],(HF.out _ _ _ _ _ _ _ _).1⟩,(HF.out _ _ _ _ _ _ _ _).2⟩
def zS:Sp:=⟨0,0,0,0,[],[],[],[]⟩
def spK (G:Gm) (k:Int):Sp:=if k=0 then spG G else zS
theorem qsu(w:World):IsSp w ⟨none,0,none,0,none,0,none,0⟩ zS :=
 have z:∀(k:Nat),Row w k none 0 0 []:=fun k=>⟨by simp,Nat.le_refl _,Nat.zero_le _,.inl ⟨rfl,rfl,rfl⟩⟩
 ⟨z 1,z 1,z 1,⟨[],rfl,z 4,fun q h=>(by cases h)⟩⟩
theorem qmg(G:Gm)(h:Hd)(w:World)(k:Int)(f:IsG w h G)(g:OfR G k):Calls Tryz.prog 10 #[gv h G] w fun e c=>∃a,e=.returned (.tuple #[.agg (sC a (spK G k)),.int .i64 k])/\IsSp c a (spK G k)/\Below w.heap.size w c:=by
 refine(qo0 G h w k f g).mono ?_;rintro e c ⟨b,d⟩;unfold spK
 rcases b with ⟨b,rfl⟩ | ⟨rfl,a,rfl,hs⟩
 ·rw[if_neg b];exact⟨⟨none,0,none,0,none,0,none,0⟩,rfl,qsu _,d⟩
 ·rw[if_pos rfl];exact⟨a,rfl,hs,d⟩
theorem qng(l:List Int)(b c:Option Addr)(n i j:Nat)(w:World)(d:Row w 1 b n i (intC l))(f:Row w 1 c n j (intC l))(o:n=l.length)(z:n<=1000):
  Calls Tryz.prog 27 #[.slice b n i,.slice c n j] w fun e s=>e=.returned (.bool true)/\Below w.heap.size w s:=by
 have p:Hid (n=l.length):=o
 have m:Hid (Row w 1 b n i (intC l)/\Row w 1 c n j (intC l)):=⟨d,f⟩
 have D:=ze d;have E:=ze f;clear o d f;go_enter Tryz.func27,Tryz.ntmps27;go_wp2_with fail
 go_loopg [5] n (fun kx s5 wr=>∃k:Nat,s5=.int .i64 k/\k<=n/\n - k<=kx/\Hid (Below w.heap.size w wr))
 case atStart=>exact⟨0,rfl,Nat.zero_le _,by omega,(Below.refl _ _:Below w.heap.size w w)⟩
 case round =>
  obtain⟨k,rfl,y,v,J⟩:=hrel
  by_cases g:k<n
  ·have a:(k:Int)<(n:Int):=by omega
   obtain⟨x,h⟩:∃x,l[k]?=some x:=⟨l[k]'(by rw[<-p.out];exact g),List.getElem?_eq_getElem _⟩
   obtain⟨t,B,rfl,c1⟩:=qcy (m.out.1.below J.out) h;obtain⟨u,C,rfl,c2⟩:=qcy (m.out.2.below J.out) h;clear h
   have r:Hid (∀q,Below w.heap.size w (wr.drewN q)):=fun q=>yh J.out q
   clear J;have A:=qay
   go_upto_region 6 with fail
   go_quiet (fail);go_wp2_with fail;go_roundg (n - (k+1))
   case measure=>omega
   case rel=>exact⟨k+1,by simp,by omega,Nat.le_refl _,r.out _⟩
  ·have a:¬(k:Int)<(n:Int):=by omega
   go_wp2_with fail;go_ret;exact⟨rfl,J.out⟩
theorem qqr(l:List Nat):natC l=intC (l.map fun x:Nat=>(x:Int)):=by
 unfold natC intC;rw[List.map_map];rfl
theorem qbr(l:List Nat)(a b:Option Addr)(n c d:Nat)(w:World)(f:Row w 1 a n c (natC l))(g:Row w 1 b n d (natC l))(h:n=l.length)(i:n<=1000):
  Calls Tryz.prog 27 #[.slice a n c,.slice b n d] w fun e j=>e=.returned (.bool true)/\Below w.heap.size w j:=by
 rw[qqr]at f g;exact qng _ a b n c d w f g (by rw[List.length_map];exact h) i
end Go.Proofs.YtngclmglmhiljaaGreatDoor
