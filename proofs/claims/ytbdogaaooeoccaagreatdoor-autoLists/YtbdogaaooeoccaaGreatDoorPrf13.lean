/- Texts that the proofs of the Auto statements stand on, part Prf13. -/
import Derived.Deep.RegionHeld
import Derived.Test.YtbdogaaooeoccaaGreatDoorPrf12
set_option maxHeartbeats 16000000
set_option maxRecDepth 100000
namespace Go.Proofs.YtbdogaaooeoccaaGreatDoor
open Go.RowKit
theorem qmz{t:ByteArray}{S:St}(h:S.hd.t≠t):qbn t S=S:=by unfold qbn;rw[if_neg h]
theorem qkw{t:ByteArray}{S:St}(h:S.hd.t=t):qbn t S=S.next:=by unfold qbn;rw[if_pos h]
theorem k9(t:ByteArray)(g:t≠⟨#[]⟩)(w W:World)(a:Nat)(h:RHd)(S:St)(qs:List (Ru × Option Addr × Nat))(r:RD w W a h S qs)(d:S.hd.t≠t):
  Calls Tryz.prog 177 #[.pointer (some ⟨a,0,none⟩),.string t] W fun e b=>e=.returned (.bool false)/\(∃f,RD w b a f S qs)/\Keep W b:=by
 refine(qaj t g w W a h S qs r false ⟨fun h=>(by cases h),fun h=>absurd h d⟩).mono ?_;rintro e b ⟨rfl,c⟩;rw[qmz d]at c;exact⟨rfl,c.rd,c.keep ⟨_,r.box⟩⟩
theorem ju(t:ByteArray)(g:t≠⟨#[]⟩)(w W:World)(a:Nat)(h:RHd)(S:St)(qs:List (Ru × Option Addr × Nat))(r:RD w W a h S qs)(d:S.hd.t=t):
  Calls Tryz.prog 177 #[.pointer (some ⟨a,0,none⟩),.string t] W fun e b=>e=.returned (.bool true)/\(∃f,RD w b a f S.next qs)/\Keep W b:=by
 refine(qaj t g w W a h S qs r true ⟨fun _=>d,fun _=>rfl⟩).mono ?_;rintro e b ⟨rfl,c⟩;rw[qkw d]at c;exact⟨rfl,c.rd,c.keep ⟨_,r.box⟩⟩
theorem js{c:UInt8}{r:List UInt8}:(⟨(c :: r).toArray⟩:ByteArray)≠⟨#[]⟩:=by
 intro e;have:=congrArg by8 e
 cases this
def Pl (x:Wd):Prop:=x.t≠qgg/\x.t≠tNon/\x.t≠qgh/\x.t≠tExp
theorem qkx(w W:World)(i:Nat)(h:RHd)(S:St)(qs:List (Ru × Option Addr × Nat))(r:RD w W i h S qs)(a2:Pl S.hd):
  Calls Tryz.prog 178 #[.pointer (some ⟨i,0,none⟩)] W fun e k=>Did w W i qs (jg S) e k:=by
 have HR:Hid (RD w (W.alloc (.cells #[.int .i64 0,.int .i64 0] 177)) i h S qs):=r.step (qb _ _);have P:=hid r.bel.size;have C:=hid a2;have I:(W.alloc (.cells #[.int .i64 0,.int .i64 0] 177)).heap[W.heap.size]?=some (.cells #[.int .i64 0,.int .i64 0] 177 (0,0)):=heap_alloc_new _ _;have N:Hid (Keep W (W.alloc (.cells #[.int .i64 0,.int .i64 0] 177))):=qy (qb _ _)
 have a3:Hid (S.next.ws.length<=S.ws.length):=by have:=vj r.ok;show _<=_;omega
 clear r a2;go_enter Tryz.func178,Tryz.ntmps178
 go_upto_region 1 with fail
 generalize W.alloc (.cells #[.int .i64 0,.int .i64 0] 177)=W1 at HR I N ⊢
 obtain⟨T,R⟩:∃T,T=W.heap.size:=⟨_,rfl⟩
 rw[<-R]at I ⊢;have O:=hid (Nat.le_of_eq R.symm);have a1:=hid I;clear I R;have H:=hid (k8 w W1 i h S qs HR.out);unfold wv at H
 generalize hx:S.hd=x at *
 obtain⟨y,m,u⟩:=x;simp only at H;have A:=hid hx;clear hx;go_wp2_with fail;refine H.out.mono ?_;rintro e L ⟨rfl,hB⟩;have a0:=hid hB;clear hB H
 go_upto_region 2 with fail
 have J:Below W1.heap.size W1 (L.alloc (.cells #[.int .i64 y,.string m,.int .i64 u] 201)):=qd a0.out (qb _ _)
 have o:Hid ((∃f,RD w (L.alloc (.cells #[.int .i64 y,.string m,.int .i64 u] 201)) i f S qs)/\Keep W (L.alloc (.cells #[.int .i64 y,.string m,.int .i64 u] 201))/\(L.alloc (.cells #[.int .i64 y,.string m,.int .i64 u] 201)).heap[T]?=some (.cells #[.int .i64 0,.int .i64 0] 177 (0,0))/\(L.alloc (.cells #[.int .i64 y,.string m,.int .i64 u] 201)).heap[L.heap.size]?=some (.cells #[.int .i64 y,.string m,.int .i64 u] 201 (0,0))):=⟨⟨h,HR.out.step J⟩,N.out.trans (qy J),qf J a1.out,heap_alloc_new _ _⟩
 generalize L.alloc (.cells #[.int .i64 y,.string m,.int .i64 u] 201)=X at o ⊢
 obtain⟨kb,p⟩:∃kb,kb=L.heap.size:=⟨_,rfl⟩
 rw[<-p]at o ⊢;clear p J a0 HR N a1
 have n:Hid (∀{V V':World},V.heap[T]?=some (.cells #[.int .i64 0,.int .i64 0] 177 (0,0))/\V.heap[kb]?=some (.cells #[.int .i64 y,.string m,.int .i64 u] 201 (0,0))->Keep V V'->V'.heap[T]?=some (.cells #[.int .i64 0,.int .i64 0] 177 (0,0))/\V'.heap[kb]?=some (.cells #[.int .i64 y,.string m,.int .i64 u] 201 (0,0))):=fun hv j=>⟨j.loc _ _ _ hv.1 (by decide) (by decide) (by decide) (by decide),j.loc _ _ _ hv.2 (by decide) (by decide) (by decide) (by decide)⟩
 by_cases j:m=tTok
 ·have U:Hid (jg S=z8 ku S.ws.length S.next):=by
   show _=_;unfold jg;rw[A.out];simp only;rw[if_pos j]
  have p:m=⟨#[37,116,111,107,101,110]⟩:=j
  have c:Hid (Calls Tryz.prog 177 #[.pointer (some ⟨i,0,none⟩),.string ⟨#[37,116,111,107,101,110]⟩] X fun e k=>e=.returned (.bool true)/\(∃f,RD w k i f S.next qs)/\Keep X k):=by
   obtain⟨f,d⟩:=o.out.1;exact ju ⟨#[37,116,111,107,101,110]⟩ js w X i f S qs d (by rw[A.out];exact p)
  clear j p;go_wp2_with fail;refine c.out.mono ?_;rintro e Y ⟨rfl,a,b⟩;have K:=hid3 a (o.out.2.1.trans b) (n.out o.out.2.2 b);clear a b c
  have HC:Hid (Calls Tryz.prog 193 #[.pointer (some ⟨i,0,none⟩),.func (.func 194) #[.pointer (some ⟨i,0,none⟩)] #[]] Y fun e k=>Did w Y i qs (jg S) e k):=by
   obtain⟨f,d⟩:=K.out.1;rw[U.out];exact qhx w _ i f S.next qs d S.ws.length a3.out
  go_wp2_with fail;refine HC.out.mono ?_;intro e V hD;obtain⟨h3,S3,rfl,q,l,B⟩:=hD;have t:=n.out K.out.2.2 l;have M:=hid3 q (K.out.2.1.trans l) B;obtain⟨q3,q4,z3,z4⟩:=kf t.1
  have HL:Hid (Loc V T 177):=⟨_,t.1⟩
  obtain⟨g,Q⟩:∃g,g=jr (jg S):=⟨_,rfl⟩
  have HG:=hid Q.symm;rw[<-Q];clear q l B t Q HC;obtain⟨g1,g2⟩:=g;unfold fv;simp only;go_wp2_with fail;refine bodyPost_ret (v:=.agg #[.int .i64 g1,.int .i64 g2]) (by simp[results,Tryz.results178,go_sem, *]) rfl ?_;exact zx M.out.1 M.out.2.1 HL.out O.out P.out HG.out M.out.2.2
 ·have H0:=hid j
  have c:Hid (Calls Tryz.prog 177 #[.pointer (some ⟨i,0,none⟩),.string ⟨#[37,116,111,107,101,110]⟩] X fun e k=>e=.returned (.bool false)/\(∃f,RD w k i f S qs)/\Keep X k):=by
   obtain⟨f,d⟩:=o.out.1;exact k9 ⟨#[37,116,111,107,101,110]⟩ js w X i f S qs d (by rw[A.out];exact j)
  clear j;go_wp2_with fail;refine c.out.mono ?_;rintro e Z ⟨rfl,a,b⟩;have s:=hid3 a (o.out.2.1.trans b) (n.out o.out.2.2 b);clear a b c o
  by_cases j:m=qng
  ·have U:Hid (jg S=jc ⟨y,m,u⟩ 1 S.next):=by
    show _=_;unfold jg;rw[A.out];simp only;rw[if_neg H0.out,if_pos j]
   have p:m=⟨#[37,108,101,102,116]⟩:=j
   have c:Hid (Calls Tryz.prog 177 #[.pointer (some ⟨i,0,none⟩),.string ⟨#[37,108,101,102,116]⟩] Z fun e k=>e=.returned (.bool true)/\(∃f,RD w k i f S.next qs)/\Keep Z k):=by
    obtain⟨f,d⟩:=s.out.1;exact ju ⟨#[37,108,101,102,116]⟩ js w Z i f S qs d (by rw[A.out];exact p)
   clear j p;go_wp2_with fail;refine c.out.mono ?_;rintro e Y ⟨rfl,a,b⟩;have K:=hid3 a (s.out.2.1.trans b) (n.out s.out.2.2 b);clear a b c
   have HC:Hid (Calls Tryz.prog 195 #[.pointer (some ⟨i,0,none⟩),.agg #[.int .i64 y,.string m,.int .i64 u],.int .i64 1] Y fun e k=>Did w Y i qs (jg S) e k):=by
    obtain⟨f,d⟩:=K.out.1;rw[U.out];exact qjg 1 ⟨y,m,u⟩ w _ i f S.next qs d
   obtain⟨p0,p1,p2⟩:=qe2 K.out.2.2.2;go_wp2_with fail;refine HC.out.mono ?_;clear p0 p1 p2;intro e V hD;obtain⟨h3,S3,rfl,q,l,B⟩:=hD;have t:=n.out K.out.2.2 l;have M:=hid3 q (K.out.2.1.trans l) B;obtain⟨q3,q4,z3,z4⟩:=kf t.1
   have HL:Hid (Loc V T 177):=⟨_,t.1⟩
   obtain⟨g,Q⟩:∃g,g=jr (jg S):=⟨_,rfl⟩
   have HG:=hid Q.symm;rw[<-Q];clear q l B t Q HC;obtain⟨g1,g2⟩:=g;unfold fv;simp only;go_wp2_with fail;refine bodyPost_ret (v:=.agg #[.int .i64 g1,.int .i64 g2]) (by simp[results,Tryz.results178,go_sem, *]) rfl ?_;exact zx M.out.1 M.out.2.1 HL.out O.out P.out HG.out M.out.2.2
  ·have H1:=hid j
   have c:Hid (Calls Tryz.prog 177 #[.pointer (some ⟨i,0,none⟩),.string ⟨#[37,108,101,102,116]⟩] Z fun e k=>e=.returned (.bool false)/\(∃f,RD w k i f S qs)/\Keep Z k):=by
    obtain⟨f,d⟩:=s.out.1;exact k9 ⟨#[37,108,101,102,116]⟩ js w Z i f S qs d (by rw[A.out];exact j)
   clear j;go_wp2_with fail;refine c.out.mono ?_;rintro e V2 ⟨rfl,a,b⟩;have D:=hid3 a (s.out.2.1.trans b) (n.out s.out.2.2 b);clear a b c s;have j:m≠qgg:=C.out.1;have H2:=hid j
   have c:Hid (Calls Tryz.prog 177 #[.pointer (some ⟨i,0,none⟩),.string ⟨#[37,114,105,103,104,116]⟩] V2 fun e k=>e=.returned (.bool false)/\(∃f,RD w k i f S qs)/\Keep V2 k):=by
    obtain⟨f,d⟩:=D.out.1;exact k9 ⟨#[37,114,105,103,104,116]⟩ js w V2 i f S qs d (by rw[A.out];exact j)
   clear j;go_wp2_with fail;refine c.out.mono ?_;rintro e V3 ⟨rfl,a,b⟩;have E:=hid3 a (D.out.2.1.trans b) (n.out D.out.2.2 b);clear a b c D;have j:m≠tNon:=C.out.2.1;have H3:=hid j
   have c:Hid (Calls Tryz.prog 177 #[.pointer (some ⟨i,0,none⟩),.string ⟨#[37,110,111,110,97,115,115,111,99]⟩] V3 fun e k=>e=.returned (.bool false)/\(∃f,RD w k i f S qs)/\Keep V3 k):=by
    obtain⟨f,d⟩:=E.out.1;exact k9 ⟨#[37,110,111,110,97,115,115,111,99]⟩ js w V3 i f S qs d (by rw[A.out];exact j)
   clear j;go_wp2_with fail;refine c.out.mono ?_;rintro e V4 ⟨rfl,a,b⟩;have F:=hid3 a (E.out.2.1.trans b) (n.out E.out.2.2 b);clear a b c E;have j:m≠qgh:=C.out.2.2.1;have H4:=hid j
   have c:Hid (Calls Tryz.prog 177 #[.pointer (some ⟨i,0,none⟩),.string ⟨#[37,115,116,97,114,116]⟩] V4 fun e k=>e=.returned (.bool false)/\(∃f,RD w k i f S qs)/\Keep V4 k):=by
    obtain⟨f,d⟩:=F.out.1;exact k9 ⟨#[37,115,116,97,114,116]⟩ js w V4 i f S qs d (by rw[A.out];exact j)
   clear j;go_wp2_with fail;refine c.out.mono ?_;rintro e V5 ⟨rfl,a,b⟩;have G:=hid3 a (F.out.2.1.trans b) (n.out F.out.2.2 b);clear a b c F;have j:m≠tExp:=C.out.2.2.2;have H5:=hid j
   have c:Hid (Calls Tryz.prog 177 #[.pointer (some ⟨i,0,none⟩),.string ⟨#[37,101,120,112,101,99,116]⟩] V5 fun e k=>e=.returned (.bool false)/\(∃f,RD w k i f S qs)/\Keep V5 k):=by
    obtain⟨f,d⟩:=G.out.1;exact k9 ⟨#[37,101,120,112,101,99,116]⟩ js w V5 i f S qs d (by rw[A.out];exact j)
   clear j;go_wp2_with fail;refine c.out.mono ?_;rintro e V6 ⟨rfl,a,b⟩;have z:=hid3 a (G.out.2.1.trans b) (n.out G.out.2.2 b);clear a b c G
   have U:Hid (jg S=.error (zt ⟨y,m,u⟩)):=by
    show _=_;unfold jg;rw[A.out];simp only;rw[if_neg H0.out,if_neg H1.out,if_neg H2.out,if_neg H3.out,if_neg H4.out,if_neg H5.out]
   obtain⟨p0,p1,p2⟩:=qe2 z.out.2.2.2;go_wp2_with fail;refine(jz ⟨y,m,u⟩ _).mono ?_;rintro e V ⟨rfl,hB⟩;have HB:=hid hB;clear hB p0 p1 p2;obtain⟨q3,q4,z3,z4⟩:=kf (qf HB.out z.out.2.2.1);unfold fv zt;simp only;go_wp2_with fail;refine bodyPost_ret (v:=.agg #[.int .i64 1,.int .i64 u]) (by simp[results,Tryz.results178,go_sem, *]) rfl ?_;obtain⟨f,d⟩:=z.out.1;exact zx (d.step HB.out) (z.out.2.1.trans (qy HB.out)) ⟨_,qf HB.out z.out.2.2.1⟩ O.out P.out (by rw[U.out];rfl) (fun S1 h=>by rw[U.out]at h;cases h)
structure RDlt (B rb:Nat) (h:RHd) (qs:List (Ru × Option Addr × Nat)):Prop where
 rb:rb<B
 ta:∀i n c,(Value.slice h.ta n c).ownBlock=some i->i<B
 ra:∀i n c,(Value.slice h.ra n c).ownBlock=some i->i<B
 row:∀q∈qs,∀i n c,(Value.slice q.2.1 n c).ownBlock=some i->i<B
theorem qcd{b:Option Addr}{n c f d i:Nat}(h:(Value.slice b n c).ownBlock=some i):(Value.slice b f d).ownBlock=some i:=by
 cases b with
 | none=>cases h
 | some a=>exact h
theorem RD.lt{w W:World}{b:Nat}{h:RHd}{S:St}{qs:List (Ru × Option Addr × Nat)}(r:RD w W b h S qs):RDlt W.heap.size b h qs :=
 ⟨(Array.getElem?_eq_some_iff.1 r.box).1,fun i _ _ a=>(World.ownsRow.lt r.tok i (qcd a)).2,fun i _ _ a=>(World.ownsRow.lt r.rul i (qcd a)).2,fun q c i _ _ a=>(World.ownsRow.lt (r.row q c) i (qcd a)).2⟩
theorem RDlt.mono{B d f:Nat}{h b:RHd}{qs:List (Ru × Option Addr × Nat)}(l:RDlt B f h qs)(m:B<=d)(g:b.ta=h.ta)(j:b.ra=h.ra):RDlt d f b qs :=
 ⟨by have:=l.rb;omega,fun i n c a=>by rw[g]at a;have:=l.ta i n c a;omega,fun i n c a=>by rw[j]at a;have:=l.ra i n c a;omega,fun q k i n c a=>by have:=l.row q k i n c a;omega⟩
theorem RD.above{w V d:World}{c B:Nat}{h:RHd}{S:St}{qs:List (Ru × Option Addr × Nat)}(r:RD w V c h S qs)(l:RDlt B c h qs)(a:Below B V d)(g:w.heap.size<=B):RD w d c h S qs :=
 ⟨by rw[a.block c l.rb];exact r.box,r.wds,qh r.tok (fun i b=>a.block i (l.ta i _ _ b)),qh r.rul (fun i b=>a.block i (l.ra i _ _ b)),r.map,fun q f=>qh (r.row q f) (fun i b=>a.block i (l.row q f i _ _ b)),r.bel.trans (a.mono g),r.new,r.ok⟩
theorem qf5:∀{f:Nat} {l:List ByteArray} {S:St} {g:Flt},symP f l S=.error g->g.1=1
 | 0,l,S,g,h=>by cases h
 | f+1,l,S,g,h=>by
  unfold symP at h
  split at h
  ·split at h
   ·cases h;rfl
   ·exact qf5 h
  ·cases h
def SymA (w W:World) (rb:Nat) (h:RHd) (qs:List (Ru × Option Addr × Nat)) (R:Except Flt (List ByteArray × St)) (e:Ending) (W':World):Prop :=
 match R with
 | .ok (l,S1)=>∃xa xc h1,e=.returned (.tuple #[.slice xa l.length xc,fv (0,0)])/\RD w W' rb h1 S1 qs/\h1.ta=h.ta/\h1.ra=h.ra/\OwnS W' W.heap.size (.slice xa l.length xc) l/\Kept (One rb) W W'
 | .error g=>e=.returned (.tuple #[.slice none 0 0,fv g])/\(∃h1 S1,RD w W' rb h1 S1 qs/\h1.ta=h.ta/\h1.ra=h.ra)/\Kept (One rb) W W'
theorem Kept.far{W a:World}{c b:Nat}(k:Kept (One c) W a)(d:W.heap.size<=b)(j:Nat)(u:Value):Kept (One c) W (a.setCell ⟨b,j,none⟩ u):=k.setCell _ _ (fun h=>by simp only at h;omega)
theorem qma(w W:World)(g:Nat)(h:RHd)(S:St)(qs:List (Ru × Option Addr × Nat))(r:RD w W g h S qs)(f0:Nat)(c3:S.ws.length<=f0):
  Calls Tryz.prog 216 #[.pointer (some ⟨g,0,none⟩)] W fun e W'=>SymA w W g h qs (symP f0 [] S) e W':=by
 have Z:(W.alloc (.cells #[.int .i64 0,.int .i64 0] 177)).heap[W.heap.size]?=some (.cells #[.int .i64 0,.int .i64 0] 177 (0,0)):=heap_alloc_new _ _
 have HR:Hid (RD w (W.alloc (.cells #[.int .i64 0,.int .i64 0] 177)) g h S qs/\RDlt (W.alloc (.cells #[.int .i64 0,.int .i64 0] 177)).heap.size g h qs):=⟨r.step (qb _ _),(r.step (qb _ _)).lt⟩
 have X:=hid2 r.bel.size ((Array.getElem?_eq_some_iff.1 r.box).1);have E:Hid (Below W.heap.size W (W.alloc (.cells #[.int .i64 0,.int .i64 0] 177))):=qb _ _
 obtain⟨R,hR⟩:∃R,symP f0 [] S=R:=⟨_,rfl⟩
 rw[hR];have a9:=hid hR;clear r hR;go_enter Tryz.func216,Tryz.ntmps216
 go_upto_block 0 with fail
 generalize W.alloc (.cells #[.int .i64 0,.int .i64 0] 177)=z at HR Z E ⊢
 obtain⟨O,M⟩:∃O,O=W.heap.size:=⟨_,rfl⟩
 rw[<-M]at Z ⊢
 have p:Hid (W.heap.size<=O/\g<O):=⟨Nat.le_of_eq M.symm,by rw[M];exact X.out.2⟩
 have G:=hid Z;clear Z M;go_wp2_with fail
 go_loopg [4] f0 (fun kx s4 wr=>∃(xa:Option Addr) (m P f:Nat),s4=.slice xa m P/\f<=kx/\Hid (∃l a b,m=l.length/\l.length<=20/\a.ws.length<=f/\RD w wr g b a qs/\b.ta=h.ta/\b.ra=h.ra/\Kept (One g) z wr/\OwnS wr z.heap.size (.slice xa m P) l/\symP f l a=R))
 case atStart=>exact⟨none,0,0,f0,rfl,Nat.le_refl _,(⟨[],S,h,rfl,by decide,c3,HR.out.1,rfl,rfl,Kept.refl _ _,World.ownsRow_nil _ _ _ _,a9.out⟩:∃l a b,0=l.length/\l.length<=20/\a.ws.length<=f0/\RD w z g b a qs/\b.ta=h.ta/\b.ra=h.ra/\Kept (One g) z z/\OwnS z z.heap.size (.slice none 0 0) l/\symP f0 l a=R)⟩
 case round =>
  obtain⟨xa,m,P,f,rfl,c9,J⟩:=hrel;obtain⟨l,a,b,hm,a1,a2,a0,b5,b4,b1,A,hN⟩:=J.out;clear J a9
  obtain⟨Q,rfl⟩:∃Q,f=Q+1:=⟨f - 1,by have:=a0.ok.ends.pos;omega⟩
  have b7:m<=P/\P<=9223372036854775807:=by
   rw[hm]at A;obtain⟨ao,c,e,q1,q2,q3⟩:=zo A
   cases e
   unfold maxLen at q2;omega
  have I:Hid (∀V:World,Below wr.heap.size wr V->Calls Tryz.prog 179 #[.pointer (some ⟨g,0,none⟩)] V fun e W'=>e=.returned (wv a.hd)/\Below V.heap.size V W'):=fun V hV=>k8 w V g b a qs (a0.step hV)
  have d:Hid (m=l.length/\l.length<=20/\a.ws.length<=Q+1/\RD w wr g b a qs/\b.ta=h.ta/\b.ra=h.ra/\Kept (One g) z wr/\OwnS wr z.heap.size (.slice xa m P) l):=⟨hm,a1,a2,a0,b5,b4,b1,A⟩
  have H:Hid (R=if a.hd.k=1 then (if l.length=20 then .error (zt a.hd) else symP Q (l++[a.hd.t]) a.next) else .ok (l,a)):=hN.symm
  have c8:m<=20:=by omega
  clear hm a1 a2 a0 b5 b4 b1 A hN;unfold wv at I
  generalize hx:a.hd=x at *
  obtain⟨xk,D,ya⟩:=x;simp only at I H;have HX:=hid hx;clear hx;have c6:=qgk xk ya D;have c7:=qj2 xk ya D;go_wp2_with fail;refine(I.out _ (Below.refl _ _)).mono ?_;rintro e W2 ⟨rfl,L⟩;have q:=hid L;clear L
  by_cases T:xk=1
  ·have hq:(xk == 1)=true:=by simp[T]
   have U:Hid (R=if l.length=20 then .error (zt ⟨xk,D,ya⟩) else symP Q (l++[D]) a.next):=by
    show _=_;have:=H.out;rw[if_pos T]at this;exact this
   have HE:=hid ((d.out.2.2.2.1.ok.ends.tail_of_kind (by rw[show qae a.ws=⟨xk,D,ya⟩ from HX.out];simp only;rw[T];decide)).2)
   clear T H
   by_cases K:m=20
   ·have c4:((m:Int) == 20)=true:=by simp[K]
    have HF:Hid (R=.error (zt ⟨xk,D,ya⟩)):=by
     show _=_;have:=U.out;rw[if_pos (by rw[<-d.out.1];exact K)]at this
     exact this
    clear K U;go_wp2_with fail;refine(I.out _ q.out).mono ?_;rintro e W3 ⟨rfl,L⟩;have F:=hid (qd q.out L);clear L;go_wp2_with fail;refine(jz ⟨xk,D,ya⟩ _).mono ?_;rintro e W4 ⟨rfl,L⟩;have a8:=hid (qd F.out L);clear L;have y:=d.out.2.2.2.2.2.2.1.trans (zm a8.out) (fun i _ B=>B)
    have t2:W4.heap[O]?=some (.cells #[.int .i64 0,.int .i64 0] 177 (0,0)):=by
     rw[y.block O (Array.getElem?_eq_some_iff.1 G.out).1 (fun e=>by have:=p.out.2;unfold One at e;omega)]
     exact G.out
    obtain⟨q3,q4,z3,z4⟩:=kf t2
    have HL:Hid (Loc W4 O 177/\Kept (One g) W W4):=⟨⟨_,t2⟩,(zm E.out).trans y (fun i _ B=>B)⟩
    clear t2 y;unfold fv zt;simp only;go_wp2_with fail;refine bodyPost_ret (v:=.tuple #[.slice none 0 0,.agg #[.int .i64 1,.int .i64 ya]]) (by simp[results,Tryz.results216,go_sem, *]) rfl ?_;rw[HF.out];refine⟨rfl,⟨b,a,?_,d.out.2.2.2.2.1,d.out.2.2.2.2.2.1⟩,(HL.out.2.far p.out.1 _ _).far p.out.1 _ _⟩;have hw:=X.out.1;have hn:=p.out.1;exact((d.out.2.2.2.1.step a8.out).far HL.out.1 (by decide) (by omega)).far (HL.out.1.set _ _ _) (by decide) (by omega)
   ·have c4:((m:Int) == 20)=false:=by simp;omega
    have HF:Hid (symP Q (l++[D]) a.next=R):=by
     show _=_;have:=U.out;rw[if_neg (by rw[<-d.out.1];exact K)]at this
     exact this.symm
    clear U;go_wp2_with fail;refine(I.out _ q.out).mono ?_;rintro e W3 ⟨rfl,L⟩;have F:=hid (qd q.out L);clear L;have N:=d.out.2.2.2.2.2.2.2.below F.out;have c5:=Nat.le_trans d.out.2.2.2.2.2.2.1.size F.out.size;obtain⟨ao,n,c,W4,a4,hn,b3,s⟩:=(N.below (qb W3 (.cells #[.string D] 9))).addRow (qaw W3 [D] (by simp)) (by simp;omega) (by have:=d.out.2.1;simp;omega) rfl
    have a6:=qd F.out (qb W3 (.cells #[.string D] 9));have b2:=HR.out.2.mono (Nat.le_refl _) d.out.2.2.2.2.1 d.out.2.2.2.2.2.1;have b6:=Nat.le_trans X.out.1 E.out.size;have a3:=(d.out.2.2.2.1.step a6).above b2 s b6;have C:=d.out.2.2.2.2.2.2.1.trans (zm a6) (fun i _ B=>B)
    have b0:Kept (One g) z W4:=⟨by rw[s.os];exact C.os,by rw[s.tape];exact C.tape,by rw[s.output];exact C.output,Nat.le_trans C.size s.size,fun k T hS=>by rw[s.block k T];exact C.block k T hS⟩
    have b9:Hid (n=m+1):=by show _=_;rw[hn,List.length_append,d.out.1];rfl
    have H4:=hid4 a3 b0 b3 hn;have a7:(Builtin.append_ #[27,27] 27 #[.slice xa m P,.slice (some ⟨W3.heap.size,0,none⟩) 1 1]).run Tryz.prog (W3.alloc (.cells #[.string D] 9))=.ok (.slice ao n c) W4:=a4;clear a4 hn b3 s a6 b2 b6 a3 C b0 N c5;go_wp2_with(at_builtin;refine Lib.wpList_append_run _ rfl _ _ _ _ rfl _ _ rfl rfl _ _ a7 ?_)
    refine(qb4 w W4 g b a qs H4.out.1 HE.out).mono ?_;rintro e W5 ⟨rfl,Y⟩
    have b8:Hid (∃l a b,n=l.length/\l.length<=20/\a.ws.length<=Q/\RD w W5 g b a qs/\b.ta=h.ta/\b.ra=h.ra/\Kept (One g) z W5/\OwnS W5 z.heap.size (.slice ao n c) l/\symP Q l a=R):=by
     refine⟨l++[D],a.next,⟨b.wb,b.wo+3,b.wc - 1,b.ta,b.tc,b.ra,b.rc⟩,H4.out.2.2.2,?_,?_,?_,d.out.2.2.2.2.1,d.out.2.2.2.2.2.1,?_,?_,HF.out⟩
     ·rw[<-H4.out.2.2.2,b9.out];omega
     ·have b:=vj d.out.2.2.2.1.ok;have h2:=d.out.2.2.1;omega
     ·rw[Y];exact H4.out.1.next HE.out
     ·rw[Y];exact H4.out.2.1.setCell ⟨g,0,none⟩ _ (fun _=>rfl)
     ·rw[Y];have ho:=H4.out.2.2.1;refine qh ho (fun i B=>Below.heap_setCell _ _ _ _ (qu (za ho B) ⟨_,H4.out.1.box⟩ (by decide)))
    clear Y H4 K;go_wp2_with fail;go_roundg Q
    case measure=>omega
    case rel=>exact⟨ao,n,c,Q,rfl,Nat.le_refl _,b8⟩
  ·have hq:(xk == 1)=false:=by simpa using T
   have HF:Hid (R=.ok (l,a)):=by
    show _=_;have:=H.out;rw[if_neg T]at this;exact this
   clear T H;have y:=d.out.2.2.2.2.2.2.1.trans (zm q.out) (fun i _ B=>B)
   have t2:W2.heap[O]?=some (.cells #[.int .i64 0,.int .i64 0] 177 (0,0)):=by
    rw[y.block O (Array.getElem?_eq_some_iff.1 G.out).1 (fun e=>by have:=p.out.2;unfold One at e;omega)]
    exact G.out
   obtain⟨q3,q4,z3,z4⟩:=kf t2
   have HL:Hid (Loc W2 O 177/\Kept (One g) W W2):=⟨⟨_,t2⟩,(zm E.out).trans y (fun i _ B=>B)⟩
   clear t2 y;go_wp2_with fail;refine bodyPost_ret (v:=.tuple #[.slice xa m P,.agg #[.int .i64 0,.int .i64 0]]) (by simp[results,Tryz.results216,go_sem, *]) rfl ?_;rw[HF.out];have hw:=X.out.1;have hn:=p.out.1;have hm:=d.out.1;have ho:=d.out.2.2.2.2.2.2.2.below q.out;have M:=(Array.getElem?_eq_some_iff.1 G.out).1
   have a5:∀{V:World} {j:Nat} {u:Value},OwnS V z.heap.size (.slice xa m P) l->OwnS (V.setCell ⟨O,j,none⟩ u) z.heap.size (.slice xa m P) l:=fun {V j u} o=>qh o (fun i B=>Below.heap_setCell _ _ _ _ (fun e=>by simp only at e;have:=(World.ownsRow.lt o i B).1;omega))
   subst hm;refine⟨xa,P,b,rfl,((d.out.2.2.2.1.step q.out).far HL.out.1 (by decide) (by omega)).far (HL.out.1.set _ _ _) (by decide) (by omega),d.out.2.2.2.2.1,d.out.2.2.2.2.2.1,zc (a5 (a5 ho)) E.out.size,(HL.out.2.far p.out.1 _ _).far p.out.1 _ _⟩
theorem RD.addRule{w W:World}{g:Nat}{h:RHd}{S:St}{qs:List (Ru × Option Addr × Nat)}(r:RD w W g h S qs)(u:Ru)(s:Option Addr)(t:Nat)(O:OwnS W w.heap.size (.slice s u.r.length t) u.r)(V:S.rs.length<100):
  ∃o m c f,(Builtin.append_ #[23,23] 23 #[.slice h.ra S.rs.length h.rc,.slice (some ⟨W.heap.size,0,none⟩) 1 1]).run Tryz.prog (W.alloc (.cells #[.string u.l,.slice s u.r.length t,.string u.p] 42))=.ok (.slice o m c) f/\m=S.rs.length+1/\f.heap[g]?=some (.cells (rdC h S) 192 (0,0)) /\
   RD w (f.setCell ⟨g,6,none⟩ (.slice o m c)) g ⟨h.wb,h.wo,h.wc,h.ta,h.tc,o,c⟩ (kt S u) (qs++[(u,s,t)])/\Keep W (f.setCell ⟨g,6,none⟩ (.slice o m c)):=by
 obtain⟨Q,C,F,G,H⟩:=info_parts Tryz.info42;have y:=qb W (.cells #[.string u.l,.slice s u.r.length t,.string u.p] 42);have d:=r.step y;have D:=O.below y
 have z:∀j v,(rulC [(u,s,t)])[j]?=some v->(W.alloc (.cells #[.string u.l,.slice s u.r.length t,.string u.p] 42)).cell? ((⟨W.heap.size,0,none⟩:Addr).add j)=some v:=by
  intro j v A;rw[Addr.add_lit,Nat.zero_add,World.cell?_alloc_mark,<-A];exact List.getElem?_toArray (xs:=rulC [(u,s,t)]) (i:=j)
 obtain⟨v',f,N,I,x,-⟩:=run_append_own (P:=Tryz.prog) (W.alloc (.cells #[.string u.l,.slice s u.r.length t,.string u.p] 42)) w.heap.size 23 23 42 Q _ 3 56 Tryz.underlying23 C F G H rfl (by decide) _ S.rs.length _ d.rul ⟨W.heap.size,0,none⟩ 1 1 (rulC [(u,s,t)]) rfl z
  (fun v A=>by simp[rulC]at A;rcases A with rfl | rfl | rfl <;> rfl) (by unfold maxLen;omega) (by omega) (by have:=d.bel.size;exact this)
 obtain⟨o,c,rfl,-⟩:=zo I
 have a:f.heap[g]?=some (.cells (rdC h S) 192 (0,0)):=by
  rw[x.block g (Array.getElem?_eq_some_iff.1 d.box).1 (fun e=>qu ⟨_,d.box⟩ (za d.rul e.symm) (by decide) rfl)];exact d.box
 have far:∀{E k n:Nat} {v:Value} {cs:List Value},f.ownsRow w.heap.size E k v n cs->E≠192->(f.setCell ⟨g,6,none⟩ (.slice o (S.rs.length+1) c)).ownsRow w.heap.size E k v n cs:=by
  intro E k n v cs J K;exact qh J (fun i C=>Below.heap_setCell _ _ _ _ (qu (za J C) ⟨_,a⟩ K))
 refine⟨o,_,c,f,N,rfl,a,⟨?_,r.wds,?_,?_,?_,fun q M=>?_,?_,r.new,?_⟩,?_⟩
 ·rw[setCell_eq_setRow f g 6 _ 192 (0,0) _ a]
  have e:(rdC h S).setIfInBounds 6 (.slice o (S.rs.length+1) c)=rdC ⟨h.wb,h.wo,h.wc,h.ta,h.tc,o,c⟩ (kt S u):=by
   unfold rdC kt;simp
  rw[e];exact setRow_heap _ _ _ _ 192 _ a
 ·exact far (qb5 d.tok d.rul (by decide) x) (by decide)
 ·refine far ?_ (by decide);unfold kt;simp only[List.length_append,List.length_cons,List.length_nil];rw[qfd];exact I
 ·unfold kt;simp only;rw[List.map_append,r.map];rfl
 ·rcases List.mem_append.1 M with h4 | h4
  ·exact far (qb5 (d.row q h4) d.rul (by decide) x) (by decide)
  ·rw[List.mem_singleton]at h4;subst h4;exact far (qb5 D d.rul (by decide) x) (by decide)
 ·exact(d.bel.grown x (d.bel.size) (fun k L=>(World.ownsRow.lt d.rul k L).1)).setCell (p:=⟨g,6,none⟩) r.new _
 ·refine⟨r.ok.ends,r.ok.nt,r.ok.nl,r.ok.lv,?_⟩;unfold kt;simp only[List.length_append,List.length_cons,List.length_nil];omega
 ·have R:Keep W f:=by
   refine(qy y).trans ⟨x.size,fun b c2 T B X Y U Z=>?_⟩;rw[x.block b (Array.getElem?_eq_some_iff.1 B).1 (fun e=>qu ⟨_,B⟩ (za d.rul e.symm) U rfl)];exact B
  exact R.set ⟨_,a⟩ (.inl rfl) 6 _
def DidQ (w W:World) (rb:Nat) (R:Except Flt St) (e:Ending) (W':World):Prop :=
 ∃h' S' qs',e=.returned (fv (jr R))/\RD w W' rb h' S' qs'/\Keep W W'/\∀S1,R=.ok S1->S'=S1
theorem Did.q{w W a:World}{b:Nat}{qs:List (Ru × Option Addr × Nat)}{R:Except Flt St}{e:Ending}(d:Did w W b qs R e a):DidQ w W b R e a:=by
 obtain⟨f,c,g,h,i,j⟩:=d;exact⟨f,c,qs,g,h,i,j⟩
theorem Went.keepT{w W c:World}{f:Nat}{S:St}{qs:List (Ru × Option Addr × Nat)}(r:Went w W f S qs c){b:Nat}{o:Obj}(d:W.heap[b]?=some o)(a:b≠f):c.heap[b]?=some o:=by
 rw[r.2.block b (Array.getElem?_eq_some_iff.1 d).1 (fun e=>a e)];exact d
theorem qnz{W:World}{b:Nat}{a c d:Value}(h:W.heap[b]?=some (.cells #[a,c,d] 42 (0,0))):W.cell? ⟨b,0,none⟩=some a/\W.cell? ⟨b,1,none⟩=some c/\W.cell? ⟨b,2,none⟩=some d/\W.frozen? ⟨b,2,none⟩=false :=
 ⟨by rw[qe h];rfl,by rw[qe h];rfl,by rw[qe h];rfl,qj h 2⟩
theorem qmb(b:ByteArray)(w W:World)(j:Nat)(h:RHd)(S:St)(qs:List (Ru × Option Addr × Nat))(r:RD w W j h S qs):
  Calls Tryz.prog 200 #[.pointer (some ⟨j,0,none⟩),.string b] W fun e W'=>DidQ w W j (altP b S) e W':=by
 have HR:Hid (RD w (W.alloc (.cells #[.int .i64 0,.int .i64 0] 177)) j h S qs):=r.step (qb _ _);have a1:=hid r.bel.size;have c7:(W.alloc (.cells #[.int .i64 0,.int .i64 0] 177)).heap[W.heap.size]?=some (.cells #[.int .i64 0,.int .i64 0] 177 (0,0)):=heap_alloc_new _ _
 have a3:Hid (Keep W (W.alloc (.cells #[.int .i64 0,.int .i64 0] 177))/\W.heap.size<=(W.alloc (.cells #[.int .i64 0,.int .i64 0] 177)).heap.size):=⟨qy (qb _ _),(qb _ _).size⟩
 have f7:=(Array.getElem?_eq_some_iff.1 r.box).1
 have g3:S.rs.length<=h.rc/\h.rc<=9223372036854775807:=by
  obtain⟨ao,c,e,q1,q2,q3⟩:=zo r.rul
  cases e
  unfold maxLen at q2;omega
 clear r;go_enter Tryz.func200,Tryz.ntmps200
 go_upto_region 1 with fail
 generalize W.alloc (.cells #[.int .i64 0,.int .i64 0] 177)=W1 at HR c7 a3 ⊢
 obtain⟨nb,d4⟩:∃nb,nb=W.heap.size:=⟨_,rfl⟩
 rw[<-d4]at c7 ⊢;have a6:=hid (Nat.le_of_eq d4.symm)
 have a0:Hid (nb≠j):=by show _≠_;omega
 have b9:=hid c7;clear c7 d4 f7
 have b6:W1.cell? ⟨j,6,none⟩=some (.slice h.ra S.rs.length h.rc):=by rw[qe HR.out.box];rfl
 by_cases J:S.rs.length=100
 ·have hq:((S.rs.length:Int) == 100)=true:=by simp[J]
  have H:Hid (altP b S=.error (zt S.hd)):=by
   show _=_;unfold altP;rw[if_pos J]
  have d1:=hid (k8 w W1 j h S qs HR.out);unfold wv at d1;unfold zt at H
  generalize S.hd=x at *
  obtain⟨xk,xt,ya⟩:=x;simp only at d1 H;clear J
  generalize S.rs.length=rn at *
  go_wp2_with fail;refine d1.out.mono ?_;rintro e I ⟨rfl,hB⟩;have f5:=hid hB;clear hB b6;go_wp2_with fail;refine(jz ⟨xk,xt,ya⟩ _).mono ?_;rintro e W3 ⟨rfl,hB⟩;have b8:=hid (qd f5.out hB);clear hB;obtain⟨q3,q4,z3,z4⟩:=kf (qf b8.out b9.out);unfold fv zt;simp only;go_wp2_with fail;refine bodyPost_ret (v:=.agg #[.int .i64 1,.int .i64 ya]) (by simp[results,Tryz.results200,go_sem, *]) rfl ?_;exact(zx (HR.out.step b8.out) (a3.out.1.trans (qy b8.out)) ⟨_,qf b8.out b9.out⟩ a6.out a1.out (by rw[H.out];rfl) (fun d h=>by rw[H.out]at h;cases h)).q
 ·have hq:((S.rs.length:Int) == 100)=false:=by simp;omega
  have c3:Hid (altP b S=(match symP S.ws.length [] S with | .error e=>.error e | .ok (r,d)=>if d.hd.t=qjo then (match jf 1 d.next with | .error e=>.error e | .ok (w,S2)=>.ok (kt S2 ⟨b,r,w.t⟩)) else .ok (kt d ⟨b,r,⟨#[]⟩⟩))):=by
   show _=_;unfold altP;rw[if_neg J];rfl
  have a4:Hid (S.rs.length<100):=by have:=HR.out.ok.nr;show _<_;omega
  have d7:=hid (qma w W1 j h S qs HR.out S.ws.length (Nat.le_refl _));clear J
  generalize d8:S.rs.length=rn at *
  go_wp2_with fail;refine d7.out.mono ?_;intro e I hA;clear d7 b6 hq
  cases hS:symP S.ws.length [] S with
  | error g =>
   rw[hS]at hA;obtain⟨rfl,⟨h1,d,F,b2,a9⟩,a8⟩:=hA;have f1:=qf5 hS;obtain⟨g1,g2⟩:=g;simp only at f1;subst f1
   have H:Hid (altP b S=.error (1,g2)):=by
    show _=_;rw[c3.out,hS]
   have k:Went w W1 j d qs I:=⟨⟨h1,F,fun _ _ r0=>by have e:=qc0 HR.out r0;rw[b2,a9];exact e⟩,a8⟩
   have t2:=qf (qb I (.cells #[.int .i64 1,.int .i64 g2] 177)) (k.keepT b9.out a0.out);obtain⟨q3,q4,z3,z4⟩:=kf t2
   have HD:Hid (RD w (I.alloc (.cells #[.int .i64 1,.int .i64 g2] 177)) j h1 d qs/\Keep W (I.alloc (.cells #[.int .i64 1,.int .i64 g2] 177))/\Loc (I.alloc (.cells #[.int .i64 1,.int .i64 g2] 177)) nb 177):=⟨F.step (qb _ _),(a3.out.1.trans (k.keep ⟨_,HR.out.box⟩)).trans (qy (qb _ _)),⟨_,t2⟩⟩
   clear F a8 k t2 hS c3 b2 a9;unfold fv;simp only;go_wp2_with fail;refine bodyPost_ret (v:=.agg #[.int .i64 1,.int .i64 g2]) (by simp[results,Tryz.results200,go_sem, *]) rfl ?_;exact(zx HD.out.1 HD.out.2.1 HD.out.2.2 a6.out a1.out (by rw[H.out];rfl) (fun d h=>by rw[H.out]at h;cases h)).q
  | ok p =>
   obtain⟨l,d⟩:=p;rw[hS]at hA;obtain⟨z,A,h1,rfl,F,b2,a9,d0,a8⟩:=hA
   have k:Went w W1 j d qs I:=⟨⟨h1,F,fun _ _ r0=>by have e:=qc0 HR.out r0;rw[b2,a9];exact e⟩,a8⟩
   have c4:Hid (altP b S=if d.hd.t=qjo then (match jf 1 d.next with | .error e=>.error e | .ok (w,S2)=>.ok (kt S2 ⟨b,l,w.t⟩)) else .ok (kt d ⟨b,l,⟨#[]⟩⟩)):=by
    show _=_;rw[c3.out,hS]
   have d5:Hid (d.rs.length<100):=by
    have h0:=HR.out.map;have h1:=F.map;have h2:=a4.out;show _<_;rw[<-h1,List.length_map];rw[<-h0,List.length_map]at d8;omega
   obtain⟨V,hV⟩:∃V,V=(I.alloc (.cells #[.int .i64 0,.int .i64 0] 177)).alloc (.cells #[.string b,.slice z l.length A,.string ⟨#[]⟩] 42):=⟨_,rfl⟩
   have a7:Below I.heap.size I V:=by rw[hV];exact qd (qb _ _) (qb _ _)
   have b3:V.heap[I.heap.size+1]?=some (.cells #[.string b,.slice z l.length A,.string ⟨#[]⟩] 42 (0,0)):=by
    have:=heap_alloc_new (I.alloc (.cells #[.int .i64 0,.int .i64 0] 177)) (.cells #[.string b,.slice z l.length A,.string ⟨#[]⟩] 42);rw[qz]at this;rw[hV];exact this
   have o:Hid (RD w V j h1 d qs/\Keep W V/\V.heap[nb]?=some (.cells #[.int .i64 0,.int .i64 0] 177 (0,0))/\V.heap[I.heap.size+1]?=some (.cells #[.string b,.slice z l.length A,.string ⟨#[]⟩] 42 (0,0))/\OwnS V w.heap.size (.slice z l.length A) l/\I.heap.size+1≠j/\RDlt (I.heap.size+1) j h1 qs/\w.heap.size<=I.heap.size+1):=⟨F.step a7,(a3.out.1.trans (k.keep ⟨_,HR.out.box⟩)).trans (qy a7),qf a7 (k.keepT b9.out a0.out),b3,zc (d0.below a7) (Nat.le_trans a1.out a3.out.2),by have:=(Array.getElem?_eq_some_iff.1 F.box).1;omega,F.lt.mono (Nat.le_succ _) rfl rfl,Nat.le_succ_of_le F.bel.size⟩
   clear F b2 a9 d0 a8 k a7 b3 hS c3 a4 d8;unfold fv;simp only
   go_upto_region 7 with fail
   rw[<-hV];clear hV
   obtain⟨G,b3⟩:∃G,G=I.heap.size+1:=⟨_,rfl⟩
   rw[<-b3]at o ⊢;clear b3
   by_cases L:d.hd.t=qjo
   ·have O:=hid (qaj ⟨#[37,112,114,101,99]⟩ js w V j h1 d qs o.out.1 true ⟨fun _=>L,fun _=>rfl⟩);rw[qkw (t:=⟨#[37,112,114,101,99]⟩) L]at O
    have c5:Hid (altP b S=(match jf 1 d.next with | .error e=>.error e | .ok (w,S2)=>.ok (kt S2 ⟨b,l,w.t⟩))):=by
     show _=_;have:=c4.out;rw[if_pos L]at this;exact this
    clear L c4;go_wp2_with fail;refine O.out.mono ?_;rintro e V2 ⟨rfl,k⟩
    have C:Hid ((∃u,RD w V2 j u d.next qs/\RDlt G j u qs)/\Keep W V2/\V2.heap[nb]?=some (.cells #[.int .i64 0,.int .i64 0] 177 (0,0))/\V2.heap[G]?=some (.cells #[.string b,.slice z l.length A,.string ⟨#[]⟩] 42 (0,0))/\OwnS V2 w.heap.size (.slice z l.length A) l/\G≠j/\w.heap.size<=G):=⟨(by
     obtain⟨⟨u,r',e'⟩,-⟩:=k;obtain⟨ea,eb⟩:=e' h1 d o.out.1
     exact⟨u,r',o.out.2.2.2.2.2.2.1.mono (Nat.le_refl _) ea eb⟩),o.out.2.1.trans (k.keep ⟨_,o.out.1.box⟩),k.keepT o.out.2.2.1 a0.out,k.keepT o.out.2.2.2.1 o.out.2.2.2.2.2.1,qh o.out.2.2.2.2.1 (fun i hi=>k.2.block i (World.ownsRow.lt o.out.2.2.2.2.1 i hi).2 (qu (za o.out.2.2.2.2.1 hi) ⟨_,o.out.1.box⟩ (by decide))),o.out.2.2.2.2.2.1,o.out.2.2.2.2.2.2.2⟩
    clear k O o;obtain⟨h2,b0,c9⟩:=C.out.1;have B:=hid (qak 1 (by decide) w V2 j h2 d.next qs b0);have a5:=hid2 b0 c9;clear b0 c9;unfold wv fv at B
    rcases qa8 1 d.next with ⟨hk,hP,hW,hS2,hF⟩ | ⟨hk,hP,hF,hS2⟩
    ·rw[hW,hS2,hF]at B
     generalize hy:d.next.hd=y at *
     obtain⟨yk,n,ya⟩:=y;simp only at B
     have H:Hid (altP b S=.ok (kt d.next.next ⟨b,l,n⟩)):=by
      show _=_;rw[c5.out,hP]
     clear hk hP hW hS2 hF hy c5;go_wp2_with fail;refine B.out.mono ?_;rintro e V3 ⟨rfl,k⟩
     obtain⟨P,c6⟩:∃P,P=(V3.alloc (.cells #[.int .i64 yk,.string n,.int .i64 ya] 201)).alloc (.cells #[.int .i64 0,.int .i64 0] 177):=⟨_,rfl⟩
     have a2:Below V3.heap.size V3 P:=by rw[c6];exact qd (qb _ _) (qb _ _)
     have U:=qf a2 (k.keepT C.out.2.2.2.1 C.out.2.2.2.2.2.1);have T:=OwnS.below (qh C.out.2.2.2.2.1 (fun i hi=>k.2.block i (World.ownsRow.lt C.out.2.2.2.2.1 i hi).2 (qu (za C.out.2.2.2.2.1 hi) ⟨_,a5.out.1.box⟩ (by decide)))) a2;have f2:=(C.out.2.1.trans (k.keep ⟨_,a5.out.1.box⟩)).trans (qy a2);have d3:=qf a2 (k.keepT C.out.2.2.1 a0.out);have f0:Below G P (P.setCell ⟨G,2,none⟩ (.string n)):=(Below.refl _ _).setCell (p:=⟨G,2,none⟩) (Nat.le_refl _) _
     have m:∃u,RD w (P.setCell ⟨G,2,none⟩ (.string n)) j u d.next.next qs:=by
      obtain⟨⟨h3,r3,e3⟩,-⟩:=k;obtain⟨ea,eb⟩:=e3 h2 d.next a5.out.1;exact⟨h3,(r3.step a2).above (a5.out.2.mono (Nat.le_refl _) ea eb) f0 C.out.2.2.2.2.2.2⟩
     have f3:=qu ⟨_,d3⟩ ⟨_,U⟩ (by decide)
     have f4:(P.setCell ⟨G,2,none⟩ (.string n)).heap[G]?=some (.cells #[.string b,.slice z l.length A,.string n] 42 (0,0)):=by
      rw[setCell_eq_setRow P G 2 _ 42 (0,0) _ U];exact setRow_heap _ _ _ _ 42 _ U
     have HX:Hid ((∃u,RD w (P.setCell ⟨G,2,none⟩ (.string n)) j u d.next.next qs)/\Keep W (P.setCell ⟨G,2,none⟩ (.string n))/\(P.setCell ⟨G,2,none⟩ (.string n)).heap[nb]?=some (.cells #[.int .i64 0,.int .i64 0] 177 (0,0))/\(P.setCell ⟨G,2,none⟩ (.string n)).heap[G]?=some (.cells #[.string b,.slice z l.length A,.string n] 42 (0,0))/\OwnS (P.setCell ⟨G,2,none⟩ (.string n)) w.heap.size (.slice z l.length A) l/\d.next.next.rs.length<100):=⟨m,f2.set ⟨_,U⟩ (.inr (.inr (.inl rfl))) _ _,by rw[Below.heap_setCell _ _ _ _ f3];exact d3,f4,qh T (fun i hi=>Below.heap_setCell _ _ _ _ (qu (za T hi) ⟨_,U⟩ (by decide))),d5.out⟩
     obtain⟨-,-,v2,vf⟩:=qnz U;clear k B a2 U T f2 d3 f0 m f3 f4
     go_upto_region 11 with fail
     rw[<-c6]
     have y0:P.cell? ⟨V3.heap.size,1,none⟩=some (.string n):=by
      rw[c6];exact qp (by rw[World.cell?_alloc_mark];rfl) _
     clear c6
     go_upto_region 12 with fail
     obtain⟨X,d9⟩:∃X,X=P.setCell ⟨G,2,none⟩ (.string n):=⟨_,rfl⟩
     rw[<-d9]at HX ⊢;clear d9 v2 vf y0;obtain⟨K,m⟩:=HX.out.1;have E:=HX.out.2.2.2.2.2;obtain⟨ao,mm,cc,Y,N,d2,D,M,R⟩:=(m.step (qo X)).addRule ⟨b,l,n⟩ z A HX.out.2.2.2.2.1 E
     have b6:X.cell? ⟨j,6,none⟩=some (.slice K.ra d.next.next.rs.length K.rc):=by rw[qe m.box];rfl
     obtain⟨u0,u1,u2,-⟩:=qnz HX.out.2.2.2.1
     have d6:Y.cell? ⟨j,6,none⟩=some (.slice K.ra d.next.next.rs.length K.rc):=by rw[qe D];rfl
     have f6:=qj D 6;have f:(Builtin.append_ #[23,23] 23 #[.slice K.ra d.next.next.rs.length K.rc,.slice (some ⟨X.heap.size,0,none⟩) 1 1]).run Tryz.prog (X.alloc (.cells #[.string b,.slice z l.length A,.string n] 42)).drew=.ok (.slice ao mm cc) Y:=N
     have HY:Hid ((∃u s,RD w (Y.setCell ⟨j,6,none⟩ (.slice ao mm cc)) j u (kt d.next.next ⟨b,l,n⟩) s)/\Keep X (Y.setCell ⟨j,6,none⟩ (.slice ao mm cc))):=⟨⟨_,_,M⟩,R.size,R.loc⟩
     have b4:=qp u0 (.cells #[.string b,.slice z l.length A,.string n] 42);have b5:=qp u1 (.cells #[.string b,.slice z l.length A,.string n] 42);have b7:=qp u2 (.cells #[.string b,.slice z l.length A,.string n] 42);have Q:=qp b6 (.cells #[.string b,.slice z l.length A,.string n] 42);clear N d2 D M R E m
     generalize K.ra=f8 at *
     generalize K.rc=f9 at *
     generalize d.next.next.rs.length=g0 at b6 d6 f Q;generalize l.length=ln at f u1 b5 b4 b7 Q
     go_cut [52] (fun s52 wd=>Hid ((∃u s,RD w wd j u (kt d.next.next ⟨b,l,n⟩) s)/\Keep X wd))
     case first =>
      go_region_law(refine zb rfl (.tmp 49) (.tmp 51) rfl rfl (by simp[Act.eval]) (by simp[Act.eval]) f ?_)
      all_goals (go_wp2_with fail;go_meet;exact HY)
     case rest =>
      obtain⟨Z,hZ⟩:∃Z,Z=wc:=⟨_,rfl⟩
      subst wc;have HZ:Hid ((∃u s,RD w Z j u (kt d.next.next ⟨b,l,n⟩) s)/\Keep X Z):=hcut;clear hcut HY f d6 f6 b6 Q u0 u1 u2 b4 b5 b7;have t2:=HZ.out.2.loc _ _ _ HX.out.2.2.1 (by decide) (by decide) (by decide) (by decide);obtain⟨q3,q4,z3,z4⟩:=kf t2
      have HL:Hid (Loc Z nb 177):=⟨_,t2⟩
      clear t2;go_wp2_with fail;refine bodyPost_ret (v:=.agg #[.int .i64 0,.int .i64 0]) (by simp[results,Tryz.results200,go_sem, *]) rfl ?_;obtain⟨u,s,b1⟩:=HZ.out.1;exact(zx b1 (HX.out.2.1.trans HZ.out.2) HL.out a6.out a1.out (by rw[H.out];rfl) (fun d h=>by rw[H.out]at h;cases h;rfl)).q
    ·have H:Hid (altP b S=.error (zt d.next.hd)):=by
      show _=_;rw[c5.out,hP]
     rw[hF,hS2]at B;unfold zt at B H;generalize takeW 1 d.next=y at B
     generalize d.next.hd.a=fa at *
     obtain⟨yk,n,ya⟩:=y;simp only at B;clear hk hP hF hS2 c5;go_wp2_with fail;refine B.out.mono ?_;rintro e V3 ⟨rfl,k⟩;have c8:Below V3.heap.size V3 ((V3.alloc (.cells #[.int .i64 yk,.string n,.int .i64 ya] 201)).alloc (.cells #[.int .i64 1,.int .i64 fa] 177)):=qd (qb _ _) (qb _ _);have t2:=qf c8 (k.keepT C.out.2.2.1 a0.out);obtain⟨q3,q4,z3,z4⟩:=kf t2
     have HD:Hid ((∃u,RD w ((V3.alloc (.cells #[.int .i64 yk,.string n,.int .i64 ya] 201)).alloc (.cells #[.int .i64 1,.int .i64 fa] 177)) j u d.next qs)/\Keep W ((V3.alloc (.cells #[.int .i64 yk,.string n,.int .i64 ya] 201)).alloc (.cells #[.int .i64 1,.int .i64 fa] 177))/\Loc ((V3.alloc (.cells #[.int .i64 yk,.string n,.int .i64 ya] 201)).alloc (.cells #[.int .i64 1,.int .i64 fa] 177)) nb 177):=⟨(by
      obtain⟨h3,r3⟩:=k.rd
      exact⟨h3,r3.step c8⟩),(C.out.2.1.trans (k.keep ⟨_,a5.out.1.box⟩)).trans (qy c8),⟨_,t2⟩⟩
     clear k c8 t2 B;go_wp2_with fail;refine bodyPost_ret (v:=.agg #[.int .i64 1,.int .i64 fa]) (by simp[results,Tryz.results200,go_sem, *]) rfl ?_;obtain⟨h3,r3⟩:=HD.out.1;exact(zx r3 HD.out.2.1 HD.out.2.2 a6.out a1.out (by rw[H.out];rfl) (fun d h=>by rw[H.out]at h;cases h)).q
   ·have O:=hid (qaj ⟨#[37,112,114,101,99]⟩ js w V j h1 d qs o.out.1 false ⟨fun h=>(by cases h),fun h=>absurd h L⟩);rw[qmz (t:=⟨#[37,112,114,101,99]⟩) L]at O
    have H:Hid (altP b S=.ok (kt d ⟨b,l,⟨#[]⟩⟩)):=by
     show _=_;have:=c4.out;rw[if_neg L]at this;exact this
    clear L c4;go_wp2_with fail;refine O.out.mono ?_;rintro e X ⟨rfl,k⟩
    have HX:Hid ((∃u,RD w X j u d qs)/\Keep W X/\X.heap[nb]?=some (.cells #[.int .i64 0,.int .i64 0] 177 (0,0))/\X.heap[G]?=some (.cells #[.string b,.slice z l.length A,.string ⟨#[]⟩] 42 (0,0))/\OwnS X w.heap.size (.slice z l.length A) l/\d.rs.length<100):=⟨k.rd,o.out.2.1.trans (k.keep ⟨_,o.out.1.box⟩),k.keepT o.out.2.2.1 a0.out,k.keepT o.out.2.2.2.1 o.out.2.2.2.2.2.1,qh o.out.2.2.2.2.1 (fun i hi=>k.2.block i (World.ownsRow.lt o.out.2.2.2.2.1 i hi).2 (qu (za o.out.2.2.2.2.1 hi) ⟨_,o.out.1.box⟩ (by decide))),d5.out⟩
    clear k O o;obtain⟨K,m⟩:=HX.out.1;have E:=HX.out.2.2.2.2.2;obtain⟨ao,mm,cc,Y,N,d2,D,M,R⟩:=(m.step (qo X)).addRule ⟨b,l,⟨#[]⟩⟩ z A HX.out.2.2.2.2.1 E
    have b6:X.cell? ⟨j,6,none⟩=some (.slice K.ra d.rs.length K.rc):=by rw[qe m.box];rfl
    obtain⟨u0,u1,u2,-⟩:=qnz HX.out.2.2.2.1
    have d6:Y.cell? ⟨j,6,none⟩=some (.slice K.ra d.rs.length K.rc):=by rw[qe D];rfl
    have f6:=qj D 6;have f:(Builtin.append_ #[23,23] 23 #[.slice K.ra d.rs.length K.rc,.slice (some ⟨X.heap.size,0,none⟩) 1 1]).run Tryz.prog (X.alloc (.cells #[.string b,.slice z l.length A,.string ⟨#[]⟩] 42)).drew=.ok (.slice ao mm cc) Y:=N
    have HY:Hid ((∃u s,RD w (Y.setCell ⟨j,6,none⟩ (.slice ao mm cc)) j u (kt d ⟨b,l,⟨#[]⟩⟩) s)/\Keep X (Y.setCell ⟨j,6,none⟩ (.slice ao mm cc))):=⟨⟨_,_,M⟩,R.size,R.loc⟩
    have b4:=qp u0 (.cells #[.string b,.slice z l.length A,.string ⟨#[]⟩] 42);have b5:=qp u1 (.cells #[.string b,.slice z l.length A,.string ⟨#[]⟩] 42);have b7:=qp u2 (.cells #[.string b,.slice z l.length A,.string ⟨#[]⟩] 42);have Q:=qp b6 (.cells #[.string b,.slice z l.length A,.string ⟨#[]⟩] 42);clear N d2 D M R E m
    generalize K.ra=f8 at *
    generalize K.rc=f9 at *
    generalize d.rs.length=g0 at b6 d6 f Q;generalize l.length=ln at f u1 b5 b4 b7 Q
    go_upto_region 12 with fail
    go_cut [52] (fun s52 wd=>Hid ((∃u s,RD w wd j u (kt d ⟨b,l,⟨#[]⟩⟩) s)/\Keep X wd))
    case first =>
     go_region_law(refine zb rfl (.tmp 49) (.tmp 51) rfl rfl (by simp[Act.eval]) (by simp[Act.eval]) f ?_)
     all_goals (go_wp2_with fail;go_meet;exact HY)
    case rest =>
     obtain⟨Z,hZ⟩:∃Z,Z=wc:=⟨_,rfl⟩
     subst wc;have HZ:Hid ((∃u s,RD w Z j u (kt d ⟨b,l,⟨#[]⟩⟩) s)/\Keep X Z):=hcut;clear hcut HY f d6 f6 b6 Q u0 u1 u2 b4 b5 b7;have t2:=HZ.out.2.loc _ _ _ HX.out.2.2.1 (by decide) (by decide) (by decide) (by decide);obtain⟨q3,q4,z3,z4⟩:=kf t2
     have HL:Hid (Loc Z nb 177):=⟨_,t2⟩
     clear t2;go_wp2_with fail;refine bodyPost_ret (v:=.agg #[.int .i64 0,.int .i64 0]) (by simp[results,Tryz.results200,go_sem, *]) rfl ?_;obtain⟨u,s,b1⟩:=HZ.out.1;exact(zx b1 (HX.out.2.1.trans HZ.out.2) HL.out a6.out a1.out (by rw[H.out];rfl) (fun d h=>by rw[H.out]at h;cases h;rfl)).q
theorem qb0(S:St):S.next.ws.length<=S.ws.length:=by
 show S.ws.tail.length<=_;rw[List.length_tail];omega
theorem qky:∀{f:Nat} {l l':List ByteArray} {S a:St},symP f l S=.ok (l',a)->a.ws.length<=S.ws.length
 | 0,l,l',S,a,h=>by cases h;exact Nat.le_refl _
 | f+1,l,l',S,a,h=>by
  unfold symP at h
  split at h
  ·split at h
   ·cases h
   ·exact Nat.le_trans (qky h) (qb0 S)
  ·cases h;exact Nat.le_refl _
theorem qil{k:Int}{S a:St}{x:Wd}(h:jf k S=.ok (x,a)):a.ws.length<=S.ws.length:=by
 unfold jf at h
 split at h
 ·cases h;exact qb0 S
 ·cases h
theorem qkz{a:ByteArray}{S b:St}(h:altP a S=.ok b):b.ws.length<=S.ws.length:=by
 unfold altP at h
 split at h
 ·cases h
 ·split at h
  ·cases h
  ·rename_i r S2 h2;have c:=qky h2
   split at h
   ·split at h
    ·cases h
    ·rename_i x S3 h3
     cases h
     show S3.ws.length<=_;exact Nat.le_trans (qil h3) (Nat.le_trans (qb0 S2) c)
   ·cases h
    exact c
theorem qk0{a:ByteArray}{S:St}{g:Flt}(h:altP a S=.error g):g.1=1:=by
 unfold altP at h
 split at h
 ·cases h;rfl
 ·split at h
  ·rename_i g' h2
   cases h
   exact qf5 h2
  ·split at h
   ·split at h
    ·rename_i g' h3
     cases h
     rw[(qbd h3).2];rfl
    ·cases h
   ·cases h
theorem qk1(w W:World)(n:Nat)(h:RHd)(S:St)(qs:List (Ru × Option Addr × Nat))(r:RD w W n h S qs):
  Calls Tryz.prog 180 #[.pointer (some ⟨n,0,none⟩)] W fun e W'=>DidQ w W n (jx S) e W':=by
 have HR:Hid (RD w (W.alloc (.cells #[.int .i64 0,.int .i64 0] 177)) n h S qs):=r.step (qb _ _);have K:=hid r.bel.size;have a3:(W.alloc (.cells #[.int .i64 0,.int .i64 0] 177)).heap[W.heap.size]?=some (.cells #[.int .i64 0,.int .i64 0] 177 (0,0)):=heap_alloc_new _ _;have b0:Hid (Keep W (W.alloc (.cells #[.int .i64 0,.int .i64 0] 177))):=qy (qb _ _);clear r;go_enter Tryz.func180,Tryz.ntmps180
 go_upto_region 1 with fail
 generalize W.alloc (.cells #[.int .i64 0,.int .i64 0] 177)=W1 at HR a3 b0 ⊢
 obtain⟨nb,b6⟩:∃nb,nb=W.heap.size:=⟨_,rfl⟩
 rw[<-b6]at a3 ⊢;have G:=hid (Nat.le_of_eq b6.symm);have b7:=hid a3;clear a3 b6;have H:=hid (qak 1 (by decide) w W1 n h S qs HR.out);unfold wv fv at H
 rcases qa8 1 S with ⟨d,hP,hW,hS,hF⟩ | ⟨d,hP,hF,hS⟩
 ·rw[hW,hS,hF]at H
  generalize hx:S.hd=x at *
  obtain⟨xk,s,xa⟩:=x;simp only at H
  have a2:Hid (jx S=if S.next.hd.t=tCol then j6 s S.next.ws.length S.next.next else .error (zt S.next.hd)):=by
   show _=_;unfold jx;rw[hP]
  clear d hP hW hS hF hx;go_wp2_with fail;refine H.out.mono ?_;rintro e W2 ⟨rfl,hw⟩
  obtain⟨V,hV⟩:∃V,V=(W2.alloc (.cells #[.int .i64 xk,.string s,.int .i64 xa] 201)).alloc (.cells #[.int .i64 0,.int .i64 0] 177):=⟨_,rfl⟩
  have b5:Below W2.heap.size W2 V:=by rw[hV];exact qd (qb _ _) (qb _ _)
  have P:V.heap[W2.heap.size]?=some (.cells #[.int .i64 xk,.string s,.int .i64 xa] 201 (0,0)):=by
   rw[hV];exact qf (qb _ _) (heap_alloc_new _ _)
  have B:=(hw.keep ⟨_,HR.out.box⟩).trans (qy b5);obtain⟨h2,a7⟩:=hw.rd;have HV:=hid4 (a7.step b5) (b0.out.trans B) (B.loc _ _ _ b7.out (by decide) (by decide) (by decide) (by decide)) P;clear hw b5 P B a7 H
  go_upto_region 4 with fail
  rw[<-hV];clear hV
  obtain⟨lb,P⟩:∃lb,lb=W2.heap.size:=⟨_,rfl⟩
  rw[<-P]at HV ⊢;clear P
  have z:Hid (∀{X X':World},X.heap[nb]?=some (.cells #[.int .i64 0,.int .i64 0] 177 (0,0))/\X.heap[lb]?=some (.cells #[.int .i64 xk,.string s,.int .i64 xa] 201 (0,0))->Keep X X'->X'.heap[nb]?=some (.cells #[.int .i64 0,.int .i64 0] 177 (0,0))/\X'.heap[lb]?=some (.cells #[.int .i64 xk,.string s,.int .i64 xa] 201 (0,0))):=fun hv d=>⟨d.loc _ _ _ hv.1 (by decide) (by decide) (by decide) (by decide),d.loc _ _ _ hv.2 (by decide) (by decide) (by decide) (by decide)⟩
  by_cases hc:S.next.hd.t=tCol
  ·have c:=hid (ju ⟨#[58]⟩ js w V n h2 S.next qs HV.out.1 hc)
   obtain⟨R,hR⟩:∃R,j6 s S.next.ws.length S.next.next=R:=⟨_,rfl⟩
   have b2:Hid (jx S=R):=by
    show _=_;have:=a2.out;rw[if_pos hc,hR]at this;exact this
   have b3:=hid hR;have b1:Hid (S.next.next.ws.length<=S.next.ws.length):=qb0 _;clear hc a2 hR;go_wp2_with fail;refine c.out.mono ?_;rintro e V2 ⟨rfl,b,d⟩;have I:=hid3 b (HV.out.2.1.trans d) (z.out HV.out.2.2 d);clear b d c HV
   obtain⟨f0,b9⟩:∃f0,f0=S.next.ws.length:=⟨_,rfl⟩
   rw[<-b9]at b3 b1;clear b9;go_wp2_with fail
   go_loopg [5] f0 (fun kx s5 wr=>∃f,f<=kx/\Hid (∃m,m.ws.length<=f/\(∃F T,RD w wr n F m T)/\Keep W wr/\wr.heap[nb]?=some (.cells #[.int .i64 0,.int .i64 0] 177 (0,0))/\wr.heap[lb]?=some (.cells #[.int .i64 xk,.string s,.int .i64 xa] 201 (0,0))/\j6 s f m=R))
   case atStart =>
    refine⟨f0,Nat.le_refl _,?_⟩;obtain⟨F,b⟩:=I.out.1;exact(⟨S.next.next,b1.out,⟨F,qs,b⟩,I.out.2.1,I.out.2.2.1,I.out.2.2.2,b3.out⟩:∃m,m.ws.length<=f0/\(∃F T,RD w V2 n F m T)/\Keep W V2/\V2.heap[nb]?=some (.cells #[.int .i64 0,.int .i64 0] 177 (0,0))/\V2.heap[lb]?=some (.cells #[.int .i64 xk,.string s,.int .i64 xa] 201 (0,0))/\j6 s f0 m=R)
   case round =>
    obtain⟨f,c8,J⟩:=hrel;obtain⟨m,a5,⟨h1,c7,b⟩,c3,a6,Q,hN⟩:=J.out;clear J b3 b1 I
    obtain⟨U,rfl⟩:∃U,f=U+1:=⟨f - 1,by have:=b.ok.ends.pos;omega⟩
    have HA:=hid (qmb s w wr n h1 m c7 b);have HJ:=hid5 a5 c3 a6 Q hN;obtain⟨-,p1,-⟩:=qe2 Q;clear a5 b c3 a6 Q hN;go_wp2_with fail;refine HA.out.mono ?_;intro e W3 hD;obtain⟨h3,j,E,rfl,a8,O,b4⟩:=hD;have b8:=z.out ⟨HJ.out.2.2.1,HJ.out.2.2.2.1⟩ O;have u:=hid3 a8 (HJ.out.2.1.trans O) b8;clear a8 O b8 HA p1
    cases hA:altP s m with
    | error g =>
     have hg:=qk0 hA;obtain⟨g1,g2⟩:=g;simp only at hg;subst hg
     have o:Hid (R=.error (1,g2)):=by
      show _=_;rw[<-HJ.out.2.2.2.2]
      conv=>lhs;unfold j6
      rw[hA]
     have t2:=qf (qb W3 (.cells #[.int .i64 1,.int .i64 g2] 177)) u.out.2.2.1;obtain⟨q3,q4,z3,z4⟩:=kf t2
     have HL:Hid (Loc (W3.alloc (.cells #[.int .i64 1,.int .i64 g2] 177)) nb 177):=⟨_,t2⟩
     clear hA b4 t2;unfold jr fv;simp only;go_wp2_with fail;refine bodyPost_ret (v:=.agg #[.int .i64 1,.int .i64 g2]) (by simp[results,Tryz.results180,go_sem, *]) rfl ?_;rw[b2.out];exact(zx (u.out.1.step (qb _ _)) (u.out.2.1.trans (qy (qb _ _))) HL.out G.out K.out (by rw[o.out];rfl) (fun m h=>by rw[o.out]at h;cases h)).q
    | ok S4 =>
     have e3:=b4 S4 hA;subst e3
     have a0:Hid (R=if j.hd.t=qnh then .ok j.next else if j.hd.t=tBar then j6 s U j.next else .error (zt j.hd)):=by
      show _=_;rw[<-HJ.out.2.2.2.2]
      conv=>lhs;unfold j6
      rw[hA]
     have c5:=hid (Nat.le_trans (qkz hA) HJ.out.1);clear hA b4;unfold jr fv;simp only;have N:=qb W3 (.cells #[.int .i64 0,.int .i64 0] 177);have A:=hid4 (u.out.1.step N) (u.out.2.1.trans (qy N)) (qf N u.out.2.2.1) (qf N u.out.2.2.2);clear N
     by_cases hs:j.hd.t=qnh
     ·have c:=hid (ju ⟨#[59]⟩ js w _ n h3 j E A.out.1 hs)
      have o:Hid (R=.ok j.next):=by
       show _=_;have:=a0.out;rw[if_pos hs]at this;exact this
      clear hs a0;go_wp2_with fail;refine c.out.mono ?_;rintro e Y ⟨rfl,b,d⟩;have L:=hid3 b (A.out.2.1.trans d) ((z.out A.out.2.2 d).1);clear b d c;obtain⟨q3,q4,z3,z4⟩:=kf L.out.2.2;go_wp2_with fail;refine bodyPost_ret (v:=.agg #[.int .i64 0,.int .i64 0]) (by simp[results,Tryz.results180,go_sem, *]) rfl ?_;rw[b2.out];obtain⟨F,b⟩:=L.out.1;exact(zx b L.out.2.1 ⟨_,L.out.2.2⟩ G.out K.out (by rw[o.out];rfl) (fun m h=>by rw[o.out]at h;cases h;rfl)).q
     ·have c:=hid (k9 ⟨#[59]⟩ js w _ n h3 j E A.out.1 hs)
      have a1:Hid (R=if j.hd.t=tBar then j6 s U j.next else .error (zt j.hd)):=by
       show _=_;have:=a0.out;rw[if_neg hs]at this;exact this
      clear hs a0;go_wp2_with fail;refine c.out.mono ?_;rintro e Y ⟨rfl,b,d⟩;have L:=hid3 b (A.out.2.1.trans d) (z.out A.out.2.2 d);clear b d c A;obtain⟨h4,p⟩:=L.out.1
      by_cases D:j.hd.t=tBar
      ·have c:=hid (ju ⟨#[124]⟩ js w Y n h4 j E p D)
       have o:Hid (j6 s U j.next=R):=by
        show _=_;have:=a1.out;rw[if_pos D]at this;exact this.symm
       have c6:Hid (j.next.ws.length<=U):=by
        have h1:=vj p.ok;have h2:=c5.out;show _<=_;omega
       clear D a1 p;go_wp2_with fail;refine c.out.mono ?_;rintro e Z ⟨rfl,b,d⟩
       have C:Hid (∃m,m.ws.length<=U/\(∃F T,RD w Z n F m T)/\Keep W Z/\Z.heap[nb]?=some (.cells #[.int .i64 0,.int .i64 0] 177 (0,0))/\Z.heap[lb]?=some (.cells #[.int .i64 xk,.string s,.int .i64 xa] 201 (0,0))/\j6 s U m=R):=by
        obtain⟨F,c4⟩:=b;have hb:=z.out L.out.2.2 d;exact⟨j.next,c6.out,⟨F,E,c4⟩,L.out.2.1.trans d,hb.1,hb.2,o.out⟩
       clear b d c;go_wp2_with fail;go_roundg U
       case measure=>omega
       case rel=>exact⟨U,Nat.le_refl _,C⟩
      ·have c:=hid (k9 ⟨#[124]⟩ js w Y n h4 j E p D)
       have o:Hid (R=.error (zt j.hd)):=by
        show _=_;have:=a1.out;rw[if_neg D]at this;exact this
       clear D a1 p;go_wp2_with fail;refine c.out.mono ?_;rintro e Z ⟨rfl,b,d⟩;have C:=hid3 b (L.out.2.1.trans d) ((z.out L.out.2.2 d).1);clear b d c L;obtain⟨h5,i⟩:=C.out.1;have l:=hid (k8 w Z n h5 j E i);clear i;unfold wv at l;unfold zt at o
       generalize j.hd=y at *
       obtain⟨yk,yt,ya⟩:=y;simp only at l o;go_wp2_with fail;refine l.out.mono ?_;rintro e Z2 ⟨rfl,M⟩;have a9:=hid M;clear M l;go_wp2_with fail;refine(jz ⟨yk,yt,ya⟩ _).mono ?_;rintro e Z3 ⟨rfl,M⟩;have k:=hid (qd a9.out M);clear M;obtain⟨q3,q4,z3,z4⟩:=kf (qf k.out C.out.2.2);unfold fv zt;simp only;go_wp2_with fail;refine bodyPost_ret (v:=.agg #[.int .i64 1,.int .i64 ya]) (by simp[results,Tryz.results180,go_sem, *]) rfl ?_;rw[b2.out];obtain⟨h5,i⟩:=C.out.1;exact(zx (i.step k.out) (C.out.2.1.trans (qy k.out)) ⟨_,qf k.out C.out.2.2⟩ G.out K.out (by rw[o.out];rfl) (fun m h=>by rw[o.out]at h;cases h)).q
  ·have c:=hid (k9 ⟨#[58]⟩ js w V n h2 S.next qs HV.out.1 hc)
   have o:Hid (jx S=.error (zt S.next.hd)):=by
    show _=_;have:=a2.out;rw[if_neg hc]at this;exact this
   clear hc a2;go_wp2_with fail;refine c.out.mono ?_;rintro e Z ⟨rfl,b,d⟩;have C:=hid3 b (HV.out.2.1.trans d) ((z.out HV.out.2.2 d).1);clear b d c HV;obtain⟨h5,i⟩:=C.out.1;have l:=hid (k8 w Z n h5 S.next qs i);clear i;unfold wv at l;unfold zt at o
   generalize S.next.hd=y at *
   obtain⟨yk,yt,ya⟩:=y;simp only at l o;go_wp2_with fail;refine l.out.mono ?_;rintro e Z2 ⟨rfl,M⟩;have a9:=hid M;clear M l;go_wp2_with fail;refine(jz ⟨yk,yt,ya⟩ _).mono ?_;rintro e Z3 ⟨rfl,M⟩;have k:=hid (qd a9.out M);clear M;obtain⟨q3,q4,z3,z4⟩:=kf (qf k.out C.out.2.2);unfold fv zt;simp only;go_wp2_with fail;refine bodyPost_ret (v:=.agg #[.int .i64 1,.int .i64 ya]) (by simp[results,Tryz.results180,go_sem, *]) rfl ?_;obtain⟨h5,i⟩:=C.out.1;exact(zx (i.step k.out) (C.out.2.1.trans (qy k.out)) ⟨_,qf k.out C.out.2.2⟩ G.out K.out (by rw[o.out];rfl) (fun m h=>by rw[o.out]at h;cases h)).q
 ·have HP:Hid (jx S=.error (zt S.hd)):=by
   show _=_;unfold jx;rw[hP]
  rw[hF,hS]at H;unfold zt at H HP;generalize takeW 1 S=y at H
  generalize S.hd.a=fa at *
  obtain⟨yk,yt,ya⟩:=y;simp only at H;clear d hP hF hS;go_wp2_with fail;refine H.out.mono ?_;rintro e V3 ⟨rfl,hw⟩;have a4:Below V3.heap.size V3 ((V3.alloc (.cells #[.int .i64 yk,.string yt,.int .i64 ya] 201)).alloc (.cells #[.int .i64 1,.int .i64 fa] 177)):=qd (qb _ _) (qb _ _);have B:=hw.keep ⟨_,HR.out.box⟩;have t2:=qf a4 (B.loc _ _ _ b7.out (by decide) (by decide) (by decide) (by decide));obtain⟨q3,q4,z3,z4⟩:=kf t2
  have HD:Hid ((∃F,RD w ((V3.alloc (.cells #[.int .i64 yk,.string yt,.int .i64 ya] 201)).alloc (.cells #[.int .i64 1,.int .i64 fa] 177)) n F S qs)/\Keep W ((V3.alloc (.cells #[.int .i64 yk,.string yt,.int .i64 ya] 201)).alloc (.cells #[.int .i64 1,.int .i64 fa] 177))/\Loc ((V3.alloc (.cells #[.int .i64 yk,.string yt,.int .i64 ya] 201)).alloc (.cells #[.int .i64 1,.int .i64 fa] 177)) nb 177):=⟨(by
   obtain⟨h3,r3⟩:=hw.rd
   exact⟨h3,r3.step a4⟩),(b0.out.trans B).trans (qy a4),⟨_,t2⟩⟩
  clear hw a4 t2 H B;go_wp2_with fail;refine bodyPost_ret (v:=.agg #[.int .i64 1,.int .i64 fa]) (by simp[results,Tryz.results180,go_sem, *]) rfl ?_;obtain⟨h3,r3⟩:=HD.out.1;exact(zx r3 HD.out.2.1 HD.out.2.2 G.out K.out (by rw[HP.out];rfl) (fun m h=>by rw[HP.out]at h;cases h)).q
theorem qm0{x:Wd}{S a:St}{i:Nat}(h:tokP x S=.ok (i,a)):a.ws=S.ws:=by
 unfold tokP at h
 split at h
 ·cases h;rfl
 ·split at h
  ·cases h
  ·cases h;rfl
theorem qk2{x:Wd}{S a:St}(h:ku x S=.ok a):a.ws=S.ws:=by
 unfold ku at h
 split at h
 ·cases h
 ·rename_i i S2 h2
  split at h
  ·cases h
  ·cases h
   have e:=qm0 h2;exact e
theorem qm1{l a:Int}{x:Wd}{S b:St}(h:levP l a x S=.ok b):b.ws=S.ws:=by
 unfold levP at h
 split at h
 ·cases h
 ·rename_i i S2 h2
  split at h
  ·cases h
  ·cases h
   have e:=qm0 h2;exact e
theorem qdv{b:Wd->St->Except Flt St}(d:∀x S a,b x S=.ok a->a.ws=S.ws):∀{f:Nat} {S a:St},z8 b f S=.ok a->a.ws.length<=S.ws.length
 | 0,S,a,h=>by cases h;exact Nat.le_refl _
 | f+1,S,a,h=>by
  unfold z8 at h
  split at h
  ·cases h
  ·rename_i x S2 h2;have g:=qil h2
   split at h
   ·cases h
   ·rename_i S3 h3;have c:=d x S2 S3 h3
    split at h
    ·have i:=qdv d h;rw[c]at i;omega
    ·cases h
     rw[c];exact g
theorem qdw{a:Wd->St->Except Flt St}(b:∀x S g,a x S=.error g->g.1≠0):∀{f:Nat} {S:St} {g:Flt},z8 a f S=.error g->g.1≠0
 | 0,S,g,h=>by cases h
 | f+1,S,g,h=>by
  unfold z8 at h
  split at h
  ·rename_i g' h2
   cases h
   rw[(qbd h2).2];show(1:Int)≠0
   decide
  ·rename_i x S2 h2
   split at h
   ·rename_i g' h3
    cases h
    exact b x S2 _ h3
   ·split at h
    ·exact qdw b h
    ·cases h
theorem qn0{x:Wd}{a:Int}{S b:St}(h:jc x a S=.ok b):b.ws.length<=S.ws.length:=by
 unfold jc at h
 split at h
 ·cases h
 ·have e:=qdv (fun _ _ _ h=>qm1 h) h;exact e
theorem qdx{x:Wd}{a:Int}{S:St}{g:Flt}(h:jc x a S=.error g):g.1≠0:=by
 unfold jc at h
 split at h
 ·cases h
  show(1:Int)≠0
  decide
 ·exact qdw (fun _ _ _ h=>qkv h) h
theorem qn1{x:Wd}{S:St}{g:Flt}(h:qj1 x S=.error g):g.1≠0:=by
 unfold qj1 at h
 split at h
 ·cases h
  show(7:Int)≠0
  decide
 ·split at h
  ·rename_i g' h2
   cases h
   rw[(qbd h2).2];show(1:Int)≠0
   decide
  ·cases h
theorem qmc{x:Wd}{S:St}{g:Flt}(h:qhf x S=.error g):g.1≠0:=by
 unfold qhf at h
 split at h
 ·cases h
  show(7:Int)≠0
  decide
 ·split at h
  ·rename_i g' h2
   cases h
   rw[(qbd h2).2];show(1:Int)≠0
   decide
  ·cases h
theorem qrk{k:Int}{S a:St}{x:Wd}(h:jf k S=.ok (x,a)):a.ws=S.ws.tail:=by
 unfold jf at h
 split at h
 ·cases h;rfl
 ·cases h
theorem qdy{b:Wd->St->Except Flt St}(g:∀x S a,b x S=.ok a->a.ws=S.ws):∀{f:Nat} {S a:St},z8 b f S=.ok a->∀y∈a.ws,y∈S.ws
 | 0,S,a,h=>by cases h;exact fun _ h=>h
 | f+1,S,a,h=>by
  unfold z8 at h
  split at h
  ·cases h
  ·rename_i x S2 h2;have i:=qrk h2
   split at h
   ·cases h
   ·rename_i S3 h3;have d:=g x S2 S3 h3
    split at h
    ·intro y c;have:=qdy g h y c;rw[d,i]at this;exact List.mem_of_mem_tail this
    ·cases h
     intro y c;rw[d,i]at c;exact List.mem_of_mem_tail c
theorem qrl{S:St}(f:Pl S.hd):jg S=if S.hd.t=tTok then z8 ku S.ws.length S.next else if S.hd.t=qng then jc S.hd 1 S.next else .error (zt S.hd):=by
 obtain⟨a,b,c,d⟩:=f;unfold jg;rw[if_neg a,if_neg b,if_neg c,if_neg d]
theorem qim{S b:St}(d:Pl S.hd)(h:jg S=.ok b):b.ws.length<=S.next.ws.length/\∀y∈b.ws,y∈S.ws:=by
 have c:∀y∈S.next.ws,y∈S.ws:=fun y a=>List.mem_of_mem_tail a
 rw[qrl d]at h
 split at h
 ·exact⟨qdv (fun _ _ _ h=>qk2 h) h,fun y a=>c y (qdy (fun _ _ _ h=>qk2 h) h y a)⟩
 ·split at h
  ·refine⟨qn0 h,fun y a=>c y ?_⟩;unfold jc at h
   split at h
   ·cases h
   ·exact qdy (fun _ _ _ h=>qm1 h) h y a
  ·cases h
theorem qin{S:St}{g:Flt}(h:jg S=.error g):g.1≠0:=by
 unfold jg at h
 split at h
 ·exact qdw (fun _ _ _ h=>qik h) h
 ·split at h
  ·exact qdx h
  ·split at h
   ·exact qdx h
   ·split at h
    ·exact qdx h
    ·split at h
     ·exact qn1 h
     ·split at h
      ·exact qmc h
      ·cases h
       show(1:Int)≠0
       decide
theorem qio{a:ByteArray}:∀{f:Nat} {S b:St},j6 a f S=.ok b->b.ws.length<=S.ws.length
 | 0,S,b,h=>by cases h;exact Nat.le_refl _
 | f+1,S,b,h=>by
  unfold j6 at h
  split at h
  ·cases h
  ·rename_i S2 h2;have c:=qkz h2;have d:=qb0 S2
   split at h
   ·cases h
    omega
   ·split at h
    ·have g:=qio h;omega
    ·cases h
theorem qip{a:ByteArray}:∀{f:Nat} {S:St} {g:Flt},j6 a f S=.error g->g.1≠0
 | 0,S,g,h=>by cases h
 | f+1,S,g,h=>by
  unfold j6 at h
  split at h
  ·rename_i g' h2
   cases h
   rw[qk0 h2]
   decide
  ·split at h
   ·cases h
   ·split at h
    ·exact qip h
    ·cases h
     show(1:Int)≠0
     decide
theorem qn2{S a:St}(h:jx S=.ok a):a.ws.length<=S.next.ws.length:=by
 unfold jx at h
 split at h
 ·cases h
 ·rename_i x S2 h2;unfold jf at h2
  split at h2
  ·cases h2
   split at h
   ·exact Nat.le_trans (qio h) (qb0 _)
   ·cases h
  ·cases h2
theorem qg0{S:St}{g:Flt}(h:jx S=.error g):g.1≠0:=by
 unfold jx at h
 split at h
 ·rename_i g' h2
  cases h
  rw[(qbd h2).2];show(1:Int)≠0
  decide
 ·split at h
  ·exact qip h
  ·cases h
   show(1:Int)≠0
   decide
def qiq (R:Except Flt St):Except Flt St:=match R with | .error e=>.error e | .ok S1=>jq S1.ws.length S1
theorem qrm(S:St):y8 S=qiq (jp S.ws.length S):=rfl
theorem qk3(w W:World)(o:Nat)(h:RHd)(S:St)(qs:List (Ru × Option Addr × Nat))(r:RD w W o h S qs)(A:∀x∈S.ws,Pl x):
  Calls Tryz.prog 165 #[.pointer (some ⟨o,0,none⟩)] W fun e W'=>DidQ w W o (y8 S) e W':=by
 have HR:Hid (RD w (W.alloc (.cells #[.int .i64 0,.int .i64 0] 177)) o h S qs):=r.step (qb _ _);have a7:=hid r.bel.size;have b5:=hid A;have P:(W.alloc (.cells #[.int .i64 0,.int .i64 0] 177)).heap[W.heap.size]?=some (.cells #[.int .i64 0,.int .i64 0] 177 (0,0)):=heap_alloc_new _ _;have a1:Hid (Keep W (W.alloc (.cells #[.int .i64 0,.int .i64 0] 177))):=qy (qb _ _)
 obtain⟨U,a8⟩:∃U,jp S.ws.length S=U:=⟨_,rfl⟩
 have a4:=hid a8
 have a6:Hid (y8 S=qiq U):=by
  show _=_;rw[qrm,a8]
 obtain⟨f0,a9⟩:∃f0,f0=S.ws.length:=⟨_,rfl⟩
 have b3:=hid (Nat.le_of_eq a9.symm);rw[<-a9]at a4;clear r a8 a9 A;go_enter Tryz.func165,Tryz.ntmps165
 go_upto_block 0 with fail
 generalize W.alloc (.cells #[.int .i64 0,.int .i64 0] 177)=W1 at HR P a1 ⊢
 obtain⟨G,b1⟩:∃G,G=W.heap.size:=⟨_,rfl⟩
 rw[<-b1]at P ⊢;have a3:=hid (Nat.le_of_eq b1.symm);have b2:=hid P
 have K:Hid (∀{X X':World},X.heap[G]?=some (.cells #[.int .i64 0,.int .i64 0] 177 (0,0))->Keep X X'->X'.heap[G]?=some (.cells #[.int .i64 0,.int .i64 0] 177 (0,0))):=fun hv Q=>Q.loc _ _ _ hv (by decide) (by decide) (by decide) (by decide)
 clear P b1;go_wp2_with fail
 go_loopg [3] f0 (fun kx s3 wr=>∃f,f<=kx/\Hid (∃a,a.ws.length<=f/\(∃s c,RD w wr o s a c)/\Keep W wr/\wr.heap[G]?=some (.cells #[.int .i64 0,.int .i64 0] 177 (0,0))/\jp f a=U/\∀x∈a.ws,Pl x))
 case atStart=>exact⟨f0,Nat.le_refl _,(⟨S,b3.out,⟨h,qs,HR.out⟩,a1.out,b2.out,a4.out,b5.out⟩:∃a,a.ws.length<=f0/\(∃s c,RD w W1 o s a c)/\Keep W W1/\W1.heap[G]?=some (.cells #[.int .i64 0,.int .i64 0] 177 (0,0))/\jp f0 a=U/\∀x∈a.ws,Pl x)⟩
 case round =>
  obtain⟨f,c5,J⟩:=hrel;obtain⟨a,k,⟨h1,H,b⟩,F,l,hN,A⟩:=J.out
  have L:Hid (Pl a.hd/\∀x∈a.ws,Pl x):=⟨by
   obtain⟨r,hr⟩:=b.ok.ends.head;refine A a.hd ?_;rw[hr]
   exact List.mem_cons_self,A⟩
  clear J HR a4 b3 b2 a1 b5 A
  obtain⟨I,rfl⟩:∃I,f=I+1:=⟨f - 1,by have:=b.ok.ends.pos;omega⟩
  have i:=hid5 k F l b hN;clear k F l b hN
  by_cases E:a.hd.t=tTwo
  ·have C:=hid (ju ⟨#[37,37]⟩ js w wr o h1 a H i.out.2.2.2.1 E)
   have b6:Hid (y8 S=jq a.next.ws.length a.next):=by
    show _=_;rw[a6.out,<-i.out.2.2.2.2]
    have e:jp (I+1) a=.ok a.next:=by
     unfold jp;rw[if_pos E]
    rw[e];rfl
   clear E a6;go_wp2_with fail;refine C.out.mono ?_;rintro e V ⟨rfl,b,Q⟩
   have T:Hid ((∃s c,RD w V o s a.next c)/\Keep W V/\V.heap[G]?=some (.cells #[.int .i64 0,.int .i64 0] 177 (0,0))):=⟨(by obtain⟨s,r'⟩:=b;exact⟨s,H,r'⟩),i.out.2.1.trans Q,K.out i.out.2.2.1 Q⟩
   clear b Q C i
   obtain⟨R,hR⟩:∃R,jq a.next.ws.length a.next=R:=⟨_,rfl⟩
   have a5:=hid hR
   have b7:Hid (y8 S=R):=by show _=_;rw[b6.out,hR]
   obtain⟨f1,b0⟩:∃f1,f1=a.next.ws.length:=⟨_,rfl⟩
   have b4:=hid (Nat.le_of_eq b0.symm);rw[<-b0]at a5;clear hR b0 b6;go_wp2_with fail
   go_loopg [4] f1 (fun kx s4 wr=>∃f,f<=kx/\Hid (∃a,a.ws.length<=f/\(∃s c,RD w wr o s a c)/\Keep W wr/\wr.heap[G]?=some (.cells #[.int .i64 0,.int .i64 0] 177 (0,0))/\jq f a=R))
   case atStart=>exact⟨f1,Nat.le_refl _,(⟨a.next,b4.out,T.out.1,T.out.2.1,T.out.2.2,a5.out⟩:∃a,a.ws.length<=f1/\(∃s c,RD w V o s a c)/\Keep W V/\V.heap[G]?=some (.cells #[.int .i64 0,.int .i64 0] 177 (0,0))/\jq f1 a=R)⟩
   case round =>
    obtain⟨f,c4,J⟩:=hrel;obtain⟨Y,k,⟨E,b8,b⟩,F,l,hN⟩:=J.out;clear J a5 b4 T
    obtain⟨N,rfl⟩:∃N,f=N+1:=⟨f - 1,by have:=b.ok.ends.pos;omega⟩
    have i:=hid5 k F l b hN;have M:=hid (k8 w wr o E Y b8 b);clear k F l b hN;unfold wv at M
    generalize hy:Y.hd=y at *
    obtain⟨yk,yt,ya⟩:=y;simp only at M;have HY:=hid hy;clear hy;have c6:=qgk yk ya yt;go_wp2_with fail;refine M.out.mono ?_;rintro e V2 ⟨rfl,hB⟩;have p:=hid3 (i.out.2.2.2.1.step hB) (i.out.2.1.trans (qy hB)) (qf hB i.out.2.2.1);clear hB M
    by_cases h5:yk=5
    ·have hq:(yk != 5)=false:=by simp[h5]
     have B:Hid (R=.ok Y):=by
      show _=_;rw[<-i.out.2.2.2.2]
      conv=>lhs;unfold jq
      rw[if_pos (by rw[HY.out];exact h5)]
     clear h5;obtain⟨q3,q4,z3,z4⟩:=kf p.out.2.2;go_wp2_with fail;refine bodyPost_ret (v:=.agg #[.int .i64 0,.int .i64 0]) (by simp[results,Tryz.results165,go_sem, *]) rfl ?_;rw[b7.out];exact(zx p.out.1 p.out.2.1 ⟨_,p.out.2.2⟩ a3.out a7.out (by rw[B.out];rfl) (fun a h=>by rw[B.out]at h;cases h;rfl)).q
    ·have hq:(yk != 5)=true:=by simp[h5]
     have j:Hid (R=(match jx Y with | .error e=>.error e | .ok a=>jq N a)):=by
      show _=_;rw[<-i.out.2.2.2.2]
      conv=>lhs;unfold jq
      rw[if_neg (by rw[HY.out];exact h5)]
      rfl
     clear h5;have HC:=hid (qk1 w V2 o E Y b8 p.out.1);go_wp2_with fail;refine HC.out.mono ?_;intro e V3 hD;obtain⟨h3,Z,c3,rfl,m,d,u⟩:=hD;have z:=hid3 m (p.out.2.1.trans d) (K.out p.out.2.2 d);clear m d HC
     cases n:jx Y with
     | error g =>
      have hg:=qg0 n;obtain⟨D,O⟩:=g
      have b9:(D != 0)=true:=by simpa using hg
      have B:Hid (R=.error (D,O)):=by show _=_;rw[j.out,n]
      have t2:=qf (qb V3 (.cells #[.int .i64 D,.int .i64 O] 177)) z.out.2.2;obtain⟨q3,q4,z3,z4⟩:=kf t2
      have HL:Hid (Loc (V3.alloc (.cells #[.int .i64 D,.int .i64 O] 177)) G 177):=⟨_,t2⟩
      clear n u t2 hg j;unfold jr fv;simp only;go_wp2_with fail;refine bodyPost_ret (v:=.agg #[.int .i64 D,.int .i64 O]) (by simp[results,Tryz.results165,go_sem, *]) rfl ?_;rw[b7.out];exact(zx (z.out.1.step (qb _ _)) (z.out.2.1.trans (qy (qb _ _))) HL.out a3.out a7.out (by rw[B.out];rfl) (fun a h=>by rw[B.out]at h;cases h)).q
     | ok S4 =>
      have e3:=u S4 n;subst e3
      have B:Hid (jq N Z=R):=by show _=_;rw[j.out,n]
      have a2:Hid (Z.ws.length<=N):=by
       have l1:=qn2 n;have l2:=vj i.out.2.2.2.1.ok;have l3:=i.out.1;show _<=_;omega
      clear n u j;unfold jr fv;simp only;go_wp2_with fail;go_roundg N
      case measure=>omega
      case rel=>exact⟨N,Nat.le_refl _,(⟨Z,a2.out,⟨h3,c3,z.out.1.step (qb _ _)⟩,z.out.2.1.trans (qy (qb _ _)),qf (qb _ _) z.out.2.2,B.out⟩:∃a,a.ws.length<=N/\(∃s c,RD w _ o s a c)/\Keep W _/\_=some (Obj.cells #[.int .i64 0,.int .i64 0] 177 (0,0))/\jq N a=R)⟩
  ·have C:=hid (k9 ⟨#[37,37]⟩ js w wr o h1 a H i.out.2.2.2.1 E)
   have j:Hid (U=(match jg a with | .error e=>.error e | .ok Y=>jp I Y)):=by
    show _=_;rw[<-i.out.2.2.2.2]
    conv=>lhs;unfold jp
    rw[if_neg E];rfl
   clear E;go_wp2_with fail;refine C.out.mono ?_;rintro e V ⟨rfl,b,Q⟩;have T:=hid3 b (i.out.2.1.trans Q) (K.out i.out.2.2.1 Q);clear b Q C;obtain⟨E,a0⟩:=T.out.1;have HC:=hid (qkx w V o E a H a0 L.out.1);clear a0;go_wp2_with fail;refine HC.out.mono ?_;intro e V3 hD;obtain⟨h3,Z,rfl,m,d,u⟩:=hD;have z:=hid3 m (T.out.2.1.trans d) (K.out T.out.2.2 d);clear m d HC
   cases n:jg a with
   | error g =>
    have hg:=qin n;obtain⟨D,O⟩:=g
    have b9:(D != 0)=true:=by simpa using hg
    have B:Hid (y8 S=.error (D,O)):=by show _=_;rw[a6.out,j.out,n];rfl
    have t2:=qf (qb V3 (.cells #[.int .i64 D,.int .i64 O] 177)) z.out.2.2;obtain⟨q3,q4,z3,z4⟩:=kf t2
    have HL:Hid (Loc (V3.alloc (.cells #[.int .i64 D,.int .i64 O] 177)) G 177):=⟨_,t2⟩
    clear n u t2 hg j;unfold jr fv;simp only;go_wp2_with fail;refine bodyPost_ret (v:=.agg #[.int .i64 D,.int .i64 O]) (by simp[results,Tryz.results165,go_sem, *]) rfl ?_;exact(zx (z.out.1.step (qb _ _)) (z.out.2.1.trans (qy (qb _ _))) HL.out a3.out a7.out (by rw[B.out];rfl) (fun a h=>by rw[B.out]at h;cases h)).q
   | ok S4 =>
    have e3:=u S4 n;subst e3
    have B:Hid (jp I Z=U):=by show _=_;rw[j.out,n]
    have a2:Hid (Z.ws.length<=I):=by
     have l1:=(qim L.out.1 n).1;have l2:=vj i.out.2.2.2.1.ok;have l3:=i.out.1;show _<=_;omega
    have HQ:Hid (∀x∈Z.ws,Pl x):=fun x hx=>L.out.2 x ((qim L.out.1 n).2 x hx)
    clear n u j;unfold jr fv;simp only;go_wp2_with fail;go_roundg I
    case measure=>omega
    case rel=>exact⟨I,Nat.le_refl _,(⟨Z,a2.out,⟨h3,H,z.out.1.step (qb _ _)⟩,z.out.2.1.trans (qy (qb _ _)),qf (qb _ _) z.out.2.2,B.out,HQ.out⟩:∃a,a.ws.length<=I/\(∃s c,RD w _ o s a c)/\Keep W _/\_=some (Obj.cells #[.int .i64 0,.int .i64 0] 177 (0,0))/\jp I a=U/\∀x∈a.ws,Pl x)⟩
def set4 (W:World) (b:Nat) (v0 v1 v2 v3:Value):World:=(((W.setCell ⟨b,0,none⟩ v0).setCell ⟨b,1,none⟩ v1).setCell ⟨b,2,none⟩ v2).setCell ⟨b,3,none⟩ v3
theorem qk4{W:World}{b j T:Nat}{cs:Array Value}(v:Value)(h:W.heap[b]?=some (.cells cs T (0,0))):(W.setCell ⟨b,j,none⟩ v).heap[b]?=some (.cells (cs.setIfInBounds j v) T (0,0)):=by
 rw[setCell_eq_setRow W b j _ T (0,0) _ h];exact setRow_heap _ _ _ _ T _ h
theorem qdz{w W:World}{b:Nat}(c d f g:Value)(h:Below w.heap.size w W)(a:w.heap.size<=b):Below w.heap.size w (set4 W b c d f g) :=
 (((h.setCell (p:=⟨b,0,none⟩) a _).setCell (p:=⟨b,1,none⟩) a _).setCell (p:=⟨b,2,none⟩) a _).setCell (p:=⟨b,3,none⟩) a _
theorem qbh{W:World}{b T:Nat}{a c d f:Value}(h:W.heap[b]?=some (.cells #[a,c,d,f] T (0,0))):
  W.cell? ⟨b,0,none⟩=some a/\W.cell? ⟨b,1,none⟩=some c/\W.cell? ⟨b,2,none⟩=some d/\W.cell? ⟨b,3,none⟩=some f/\W.frozen? ⟨b,0,none⟩=false/\W.frozen? ⟨b,1,none⟩=false/\W.frozen? ⟨b,2,none⟩=false/\W.frozen? ⟨b,3,none⟩=false :=
 ⟨by rw[qe h];rfl,by rw[qe h];rfl,by rw[qe h];rfl,by rw[qe h];rfl,qj h 0,qj h 1,qj h 2,qj h 3⟩
structure GT (W1 wr:World) (gb:Nat) (ta:Option Addr) (tc:Nat) (ts:List Tk) (st:ByteArray) (ex:Int) (v:Value):Prop where
 box:wr.heap[gb]?=some (.cells #[.slice ta ts.length tc,.string st,.int .i64 ex,v] 25 (0,0))
 tok:wr.ownsRow W1.heap.size 40 3 (.slice ta ts.length tc) ts.length (tokC ts)
 bel:Below W1.heap.size W1 wr
 new:W1.heap.size<=gb
theorem GT.step{c wr a:World}{f k:Nat}{j:Option Addr}{ts:List Tk}{h:ByteArray}{d:Int}{v:Value}(g:GT c wr f j k ts h d v)(b:Below wr.heap.size wr a):GT c a f j k ts h d v :=
 ⟨qf b g.box,qh g.tok (fun i l=>b.block i (World.ownsRow.lt g.tok i l).2),qd g.bel b,g.new⟩
theorem GT.add{y W:World}{h x:Nat}{s:Option Addr}{ts:List Tk}{r:ByteArray}{q:Int}{v:Value}(g:GT y W h s x ts r q v)(K:ts.length<=1000)(t:Tk):
  ∃f n c m,(Builtin.append_ #[22,22] 22 #[.slice s ts.length x,.slice (some ⟨W.heap.size,0,none⟩) 1 1]).run Tryz.prog (W.alloc (.cells #[.string t.n,.int .i64 t.l,.int .i64 t.a] 40))=.ok (.slice f n c) m/\n=ts.length+1/\m.heap[h]?=some (.cells #[.slice s ts.length x,.string r,.int .i64 q,v] 25 (0,0)) /\
   GT y (m.setCell ⟨h,0,none⟩ (.slice f n c)) h f c (ts++[t]) r q v:=by
 obtain⟨J,A,B,C,D⟩:=info_parts Tryz.info40;have d:=g.step (qb W (.cells #[.string t.n,.int .i64 t.l,.int .i64 t.a] 40))
 have o:∀j u,(tokC [t])[j]?=some u->(W.alloc (.cells #[.string t.n,.int .i64 t.l,.int .i64 t.a] 40)).cell? ((⟨W.heap.size,0,none⟩:Addr).add j)=some u:=by
  intro j u z;rw[Addr.add_lit,Nat.zero_add,World.cell?_alloc_mark,<-z];exact List.getElem?_toArray (xs:=tokC [t]) (i:=j)
 obtain⟨v',m,I,E,F,-⟩:=run_append_own (P:=Tryz.prog) (W.alloc (.cells #[.string t.n,.int .i64 t.l,.int .i64 t.a] 40)) y.heap.size 22 22 40 J _ 3 32 Tryz.underlying22 A B C D rfl (by decide) _ ts.length _ d.tok ⟨W.heap.size,0,none⟩ 1 1 (tokC [t]) rfl o
  (fun u z=>by simp[tokC]at z;rcases z with rfl | rfl | rfl <;> rfl) (by unfold maxLen;omega) (by omega) (by have:=d.bel.size;exact this)
 obtain⟨f,c,rfl,-⟩:=zo E
 have b:m.heap[h]?=some (.cells #[.slice s ts.length x,.string r,.int .i64 q,v] 25 (0,0)):=by
  rw[F.block h (Array.getElem?_eq_some_iff.1 d.box).1 (fun e=>qu ⟨_,d.box⟩ (za d.tok e.symm) (by decide) rfl)];exact d.box
 refine⟨f,_,c,m,I,rfl,b,?_,?_,?_,g.new⟩
 ·rw[setCell_eq_setRow m h 0 _ 25 (0,0) _ b]
  have e:(#[.slice s ts.length x,.string r,.int .i64 q,v]:Array Value).setIfInBounds 0 (.slice f (ts.length+1) c)=#[.slice f (ts++[t]).length c,.string r,.int .i64 q,v]:=by simp
  rw[e];exact setRow_heap _ _ _ _ 25 _ b
 ·have G:m.ownsRow y.heap.size 40 3 (.slice f (ts++[t]).length c) (ts++[t]).length (tokC (ts++[t])):=by
   rw[qfc,List.length_append];exact E
  exact qh G (fun i A=>Below.heap_setCell _ _ _ _ (qu (za G A) ⟨_,b⟩ (by decide)))
 ·exact(d.bel.grown F (d.bel.size) (fun k H=>(World.ownsRow.lt d.tok k H).1)).setCell (p:=⟨h,0,none⟩) g.new _
def gmOf (S:St):Gm:=⟨S.ts,S.st,S.ex,S.rs⟩
theorem qk5(w W:World)(A:Nat)(h:RHd)(S:St)(qs:List (Ru × Option Addr × Nat))(r:RD w W A h S qs):
  Calls Tryz.prog 166 #[.pointer (some ⟨A,0,none⟩)] W fun e W'=>∃h',e=.returned (gv h' (gmOf S))/\OwnG W' w.heap.size h' (gmOf S) qs/\Below W.heap.size W W':=by
 have p:(W.alloc (.cells #[.slice none 0 0,.string ⟨#[]⟩,.int .i64 0,.slice none 0 0] 25)).heap[W.heap.size]?=some (.cells #[.slice none 0 0,.string ⟨#[]⟩,.int .i64 0,.slice none 0 0] 25 (0,0)):=heap_alloc_new _ _;have C:Hid (RD w (W.alloc (.cells #[.slice none 0 0,.string ⟨#[]⟩,.int .i64 0,.slice none 0 0] 25)) A h S qs):=r.step (qb _ _);have L:Hid (Below W.heap.size W (W.alloc (.cells #[.slice none 0 0,.string ⟨#[]⟩,.int .i64 0,.slice none 0 0] 25))):=qb _ _;obtain⟨a1,a3⟩:=r.tlen;have a9:=r.ok.nt;clear r;go_enter Tryz.func166,Tryz.ntmps166
 go_upto_region 1 with fail
 generalize W.alloc (.cells #[.slice none 0 0,.string ⟨#[]⟩,.int .i64 0,.slice none 0 0] 25)=f at C p L ⊢
 obtain⟨z,I⟩:∃z,z=W.heap.size:=⟨_,rfl⟩
 rw[<-I]at p ⊢;have G:=hid2 (Nat.le_of_eq I.symm) ((Array.getElem?_eq_some_iff.1 p).1);have Z:=hid p;clear p I
 have c3:f.cell? ⟨A,3,none⟩=some (.string S.st):=by rw[qe C.out.box];rfl
 have c5:f.cell? ⟨A,5,none⟩=some (.int .i64 S.ex):=by rw[qe C.out.box];rfl
 have c6:f.cell? ⟨A,6,none⟩=some (.slice h.ra S.rs.length h.rc):=by rw[qe C.out.box];rfl
 have N:=hid (GT.step (⟨heap_alloc_new _ _,World.ownsRow_nil _ _ _ _,qb _ _,Nat.le_refl _⟩:GT f (f.alloc (.cells #[.slice none 0 0,.string S.st,.int .i64 S.ex,.slice h.ra S.rs.length h.rc] 25)) f.heap.size none 0 [] S.st S.ex (.slice h.ra S.rs.length h.rc)) (qo _))
 go_cut [3] (fun s3 wd=>s3=.pointer (some ⟨f.heap.size,0,none⟩)/\Hid (GT f wd f.heap.size none 0 [] S.st S.ex (.slice h.ra S.rs.length h.rc)))
 case first =>
  go_region_held (fun w'=>w'.cell? ⟨A,3,none⟩=some (.string S.st)/\w'.cell? ⟨A,5,none⟩=some (.int .i64 S.ex)/\w'.cell? ⟨A,6,none⟩=some (.slice h.ra S.rs.length h.rc)) (go_keep) (fail)
  all_goals
   go_wp2_with fail;go_meet;exact⟨rfl,N⟩
 case rest =>
  obtain⟨rfl,M⟩:=hcut
  obtain⟨X,a8⟩:∃X,X=wc:=⟨_,rfl⟩
  subst wc;clear c3 c5 c6 N
  obtain⟨B,H⟩:∃B,B=f.heap.size:=⟨_,rfl⟩
  rw[<-H]at M ⊢
  have a6:Hid (z<B):=by rw[H];exact G.out.2
  clear H
  have c1:X.cell? ⟨A,1,none⟩=some (.slice h.ta S.ts.length h.tc):=by rw[qe (C.out.step M.out.bel).box];rfl
  obtain⟨wb,wo,wl,ta,tc,x,y⟩:=h;simp only at a1 a3 c1 M
  generalize en:S.ts.length=n at *
  have O:=hid en;clear en;go_wp2_with fail
  go_loopg [24] n (fun kx s24 wr=>∃k:Nat,s24=.int .i64 k/\k<=n/\n - k<=kx/\Hid (∃a b,GT f wr B a b (S.ts.take k) S.st S.ex (.slice x S.rs.length y)))
  case atStart=>exact⟨0,rfl,Nat.zero_le _,by omega,(⟨none,0,M.out⟩:∃a b,GT f X B a b (S.ts.take 0) S.st S.ex (.slice x S.rs.length y))⟩
  case round =>
   obtain⟨k,rfl,hk,hg,J⟩:=hrel;clear M;obtain⟨a,b,l⟩:=J.out
   have g:(S.ts.take k).length=k:=by rw[List.length_take,O.out];omega
   by_cases a2:k<n
   ·have R:(k:Int)<(n:Int):=by omega
    obtain⟨t,ht⟩:∃t,S.ts[k]?=some t:=⟨S.ts[k]'(by rw[O.out];exact a2),List.getElem?_eq_getElem _⟩
    obtain⟨tb,bb,T,-,d0,d1,d2,d3,-⟩:=(C.out.step l.bel).tokAt ht;simp only at T;subst T;obtain⟨tn,tl,tA⟩:=t;simp only at d0 d1 d2;have P:=l.step (qb wr (.cells #[.string tn,.int .i64 tl,.int .i64 tA,.bool bb] 205))
    have e0:wr.cell? ⟨B,0,none⟩=some (.slice a k b):=by rw[qe l.box,g];rfl
    have a7:=qp e0 (.cells #[.string tn,.int .i64 tl,.int .i64 tA,.bool bb] 205);obtain⟨ao,m,c,w5,D,hm,s,Q⟩:=P.add (by rw[g];omega) ⟨tn,tl,tA⟩
    simp only[g,qz]at D hm
    have f0:w5.cell? ⟨B,0,none⟩=some (.slice a k b):=by rw[qe s,g];rfl
    have z0:=qj s 0
    have HF:Hid (∃a b,GT f (w5.setCell ⟨B,0,none⟩ (.slice ao m c)) B a b (S.ts.take (k+1)) S.st S.ex (.slice x S.rs.length y)):=by
     have e:=zw ht;rw[e];exact⟨_,_,Q⟩
    clear l P Q s hm J g ht;go_wp2_with(at_builtin;refine Lib.wpList_append_run _ rfl _ _ _ _ rfl _ _ rfl rfl _ _ D ?_)
    go_roundg (n - (k+1))
    case measure=>omega
    case rel=>exact⟨k+1,by simp,by omega,Nat.le_refl _,HF⟩
   ·have R:¬(k:Int)<(n:Int):=by omega
    have U:S.ts.take k=S.ts:=List.take_of_length_le (by rw[O.out];omega)
    rw[U]at l;have t0:=l.bel.block z G.out.2;rw[Z.out]at t0;obtain⟨y0,y1,y2,y3,y4,y5,y6,y7⟩:=qbh t0;obtain⟨g0,g1,g2,g3,-⟩:=qbh l.box;have a5:=hid l;rw[O.out]at g0
    have F:Hid (OwnG (set4 wr z (.slice a n b) (.string S.st) (.int .i64 S.ex) (.slice x S.rs.length y)) w.heap.size ⟨a,b,x,y⟩ (gmOf S) qs/\Below W.heap.size W (set4 wr z (.slice a n b) (.string S.st) (.int .i64 S.ex) (.slice x S.rs.length y))):=by
     have hr:=C.out.step l.bel;have a4:=C.out.bel.size
     have d:Loc wr z 25:=⟨_,t0⟩
     have far:∀{V:World} {E k n:Nat} {v:Value} {cs:List Value} {j:Nat} {u:Value},Loc V z 25->E≠25->V.ownsRow w.heap.size E k v n cs->(V.setCell ⟨z,j,none⟩ u).ownsRow w.heap.size E k v n cs:=by
      intro V E k n v cs j u hl K Y;exact qh Y (fun i hi=>Below.heap_setCell _ _ _ _ (qu (za Y hi) hl K))
     have o:∀{E k n':Nat} {v:Value} {cs:List Value},E≠25->wr.ownsRow w.heap.size E k v n' cs->(set4 wr z (.slice a n b) (.string S.st) (.int .i64 S.ex) (.slice x S.rs.length y)).ownsRow w.heap.size E k v n' cs:=by
      intro E k n' v cs K Y;exact far (((d.set _ _ _).set _ _ _).set _ _ _) K (far ((d.set _ _ _).set _ _ _) K (far (d.set _ _ _) K (far d K Y)))
     refine⟨⟨o (by decide) (zc l.tok a4),o (by decide) hr.rul,hr.map,fun q hq=>o (by decide) (hr.row q hq)⟩,?_⟩;exact qdz _ _ _ _ (qd L.out l.bel) G.out.1
    unfold set4 at F;clear l J t0 g U
    have a0:Hid (gv ⟨a,b,x,y⟩ (gmOf S)=.agg #[.slice a n b,.string S.st,.int .i64 S.ex,.slice x S.rs.length y]):=by
     show _=_;unfold gv gmOf;simp only[O.out]
    generalize S.rs.length=rn at *
    generalize S.st=st at *
    generalize S.ex=ex at *
    go_wp2_with fail;refine bodyPost_ret (v:=.agg #[.slice a n b,.string st,.int .i64 ex,.slice x rn y]) (by simp[results,Tryz.results166,go_sem, *]) rfl ?_;exact⟨⟨a,b,x,y⟩,by rw[a0.out],F.out.1,F.out.2⟩
def st0 (ws:List Wd):St:=⟨ws,[],[],0,⟨#[]⟩,false,0,[]⟩
def xq (s:ByteArray):List Wd:=(scan (by8 s)).1.map (wdOf s)
def qa9 (s:ByteArray):Except Flt St :=
 if 2000<s.size then .error (6,0) else
 if (scan (by8 s)).2<0 then y8 (st0 (xq s)) else
 match y8 (st0 (xq (s.extract 0 (scan (by8 s)).2.toNat))) with
 | .error e=>.error e
 | .ok _=>.error (1,(scan (by8 s)).2)
theorem qir(s:ByteArray):∀a:List (Nat × Nat × Nat),j8 s a=wdC (a.map (wdOf s))
 | []=>rfl
 | x :: r=>by
  have e:j8 s (x :: r)=qad s x++j8 s r:=rfl;rw[e,qir s r];rfl
theorem RD.init{w:World}{b:Nat}{s:ByteArray}{v:Value}(h:IsW w b s v (scan (by8 s)).1)(i:(scan (by8 s)).2=-1):
  ∃hd:RHd,v=.slice (some ⟨hd.wb,hd.wo,none⟩) (st0 (xq s)).ws.length hd.wc/\hd.ta=none/\hd.tc=0/\hd.ra=none/\hd.rc=0 /\
   RD w (w.alloc (.cells (rdC hd (st0 (xq s))) 192)) w.heap.size hd (st0 (xq s)) []:=by
 have c:Ends (xq s):=qpm i;have k:=c.pos;have d:(xq s).length=(scan (by8 s)).1.length:=List.length_map _;unfold IsW at h
 obtain⟨g,a,rfl⟩:∃g a,v=.slice (some ⟨g,0,none⟩) (scan (by8 s)).1.length a:=by
  rcases h.2 with ⟨_,h0⟩ | ⟨g,a,cur,hv,_⟩
  ·omega
  ·exact⟨g,a,hv⟩
 refine⟨⟨g,0,a,none,0,none,0⟩,by rw[<-d];rfl,rfl,rfl,rfl,rfl,?_⟩
 have f:=Row.of_own h;rw[qir,<-d]at f;exact⟨heap_alloc_new _ _,f,World.ownsRow_nil _ _ _ _,World.ownsRow_nil _ _ _ _,rfl,fun q j=>(by cases j),qb _ _,Nat.le_refl _,⟨c,Nat.zero_le _,rfl,Nat.zero_le _,Nat.zero_le _⟩⟩
theorem qg1:∀{f:Nat} {S:St} {g:Flt},jp f S=.error g->g.1≠0
 | 0,S,g,h=>by simp[jp]at h
 | f+1,S,g,h=>by
  unfold jp at h
  split at h
  ·cases h
  ·split at h
   ·rename_i e he
    cases h
    exact qin he
   ·exact qg1 h
theorem qg2:∀{f:Nat} {S:St} {g:Flt},jq f S=.error g->g.1≠0
 | 0,S,g,h=>by simp[jq]at h
 | f+1,S,g,h=>by
  unfold jq at h
  split at h
  ·cases h
  ·split at h
   ·rename_i e he
    cases h
    exact qg0 he
   ·exact qg2 h
theorem qpn{S:St}{g:Flt}(h:y8 S=.error g):g.1≠0:=by
 unfold y8 at h
 split at h
 ·rename_i e he
  cases h
  exact qg1 he
 ·exact qg2 h
end Go.Proofs.YtbdogaaooeoccaaGreatDoor
