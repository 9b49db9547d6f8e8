/- Texts that the proofs of the Auto statements stand on, part Prf14. -/
import Derived.Test.YtbdogaaooeoccaaGreatDoorRows
import Derived.ProofKit
import Derived.LaidMore
import Derived.Lib.LaidTab
import Derived.Test.YtbdogaaooeoccaaGreatDoorPrf13
set_option maxHeartbeats 16000000
set_option maxRecDepth 100000
namespace Go.Proofs.YtbdogaaooeoccaaGreatDoor
open Go.RowKit
def qg3 (bad:Int) (R:Except Flt St):Except Flt St:=if bad<0 then R else match R with | .error e=>.error e | .ok _=>.error (1,bad)
def qta (s:ByteArray) (w:World) (e:Ending) (w':World):Prop :=
 Below w.heap.size w w' /\
 match qa9 s with
 | .error f=>e=.returned (.tuple #[gv ⟨none,0,none,0⟩ ⟨[],⟨#[]⟩,0,[]⟩,fv f])
 | .ok S=>∃h qs,e=.returned (.tuple #[gv h (gmOf S),fv (0,0)])/\OwnG w' w.heap.size h (gmOf S) qs
theorem OwnG.off{w:World}{c:Nat}{h:Hd}{G:Gm}{qs:List (Ru × Option Addr × Nat)}{b j T:Nat}{u:Value}(o:OwnG w c h G qs)(l:Loc w b T)(d:T≠40/\T≠42/\T≠9):OwnG (w.setCell ⟨b,j,none⟩ u) c h G qs:=by
 have a:∀{E k n:Nat} {v:Value} {cs:List Value},w.ownsRow c E k v n cs->E≠T->(w.setCell ⟨b,j,none⟩ u).ownsRow c E k v n cs:=by
  intro E k n v cs f g;exact qh f (fun i m=>Below.heap_setCell _ _ _ _ (qu (za f m) l g))
 exact⟨a o.tok (Ne.symm d.1),a o.rul (Ne.symm d.2.1),o.map,fun q p=>a (o.row q p) (Ne.symm d.2.2)⟩
theorem qg4(s:ByteArray)(w:World)(hl:¬2000<s.size)(J:(scan (by8 s)).2=-1)(k:∀x∈xq s,Pl x):Calls Tryz.prog 155 #[.string s] w fun e w'=>qta s w e w':=by
 have hs:s.size<=1048576:=by omega
 have c4:(s.size:Int)<=1048576:=by omega
 have G:=hid2 J k;clear J k
 have r:((w.alloc (.cells #[.slice none 0 0,.string ⟨#[]⟩,.int .i64 0,.slice none 0 0] 25)).alloc (.cells #[.int .i64 0,.int .i64 0] 177)).heap[w.heap.size+1]?=some (.cells #[.int .i64 0,.int .i64 0] 177 (0,0)):=by
  have:=heap_alloc_new (w.alloc (.cells #[.slice none 0 0,.string ⟨#[]⟩,.int .i64 0,.slice none 0 0] 25)) (.cells #[.int .i64 0,.int .i64 0] 177)
  rwa [qz]at this
 have n:((w.alloc (.cells #[.slice none 0 0,.string ⟨#[]⟩,.int .i64 0,.slice none 0 0] 25)).alloc (.cells #[.int .i64 0,.int .i64 0] 177)).heap[w.heap.size]?=some (.cells #[.slice none 0 0,.string ⟨#[]⟩,.int .i64 0,.slice none 0 0] 25 (0,0)):=qf (qb _ _) (heap_alloc_new _ _);have HB:Hid (Below w.heap.size w ((w.alloc (.cells #[.slice none 0 0,.string ⟨#[]⟩,.int .i64 0,.slice none 0 0] 25)).alloc (.cells #[.int .i64 0,.int .i64 0] 177))):=qd (qb _ _) (qb _ _);go_enter Tryz.func155,Tryz.ntmps155
 go_upto_region 1 with fail
 generalize (w.alloc (.cells #[.slice none 0 0,.string ⟨#[]⟩,.int .i64 0,.slice none 0 0] 25)).alloc (.cells #[.int .i64 0,.int .i64 0] 177)=W1 at n r HB ⊢
 obtain⟨A,a0⟩:∃A,A=w.heap.size:=⟨_,rfl⟩
 obtain⟨h,a2⟩:∃h,h=w.heap.size+1:=⟨_,rfl⟩
 rw[<-a2]at r ⊢;rw[<-a0]at n ⊢
 have c:Hid (w.heap.size<=A/\w.heap.size<=h/\A≠h):=⟨by omega,by omega,by omega⟩
 have c3:A≠h:=by omega
 have a9:h≠A:=by omega
 clear a0 a2
 have b7:¬(s.size:Int) > 2000:=by omega
 have S:=hid (qdf s W1 hs);have D:=hid2 n r;have HL:=hid hl;clear n r hl;go_wp2_with fail;refine S.out.mono ?_;rintro e V ⟨v,rfl,Z,I⟩;have HV:=hid2 Z I;clear Z I S;generalize B:(scan (by8 s)).2=i;have u:=hid B;clear B;have J:=G.out.1
 have a8:i=-1:=by rw[<-u.out];exact J
 have HF:Hid (∃t y,(∀x∈xq t,Pl x)/\IsW V y t v (scan (by8 t)).1/\(scan (by8 t)).2=-1/\Below W1.heap.size W1 V/\qa9 s=qg3 i (y8 (st0 (xq t)))):=by
  refine⟨s,_,G.out.2,HV.out.1,J,HV.out.2,?_⟩;unfold qa9 qg3;rw[if_neg HL.out,if_pos (by rw[J];decide),if_pos (by omega)]
 have b4:¬(i ≥ 0):=by omega
 have a1:i<0:=by omega
 clear J a8 HV u HL
 go_upto_region 6 with fail
 obtain⟨t,y,k,Z,a5,m,a4⟩:=HF.out;obtain⟨⟨wb,wo,wl,ta,tc,ra,rc⟩,rfl,h1,h2,h3,h4,a3⟩:=RD.init Z a5;simp only at h1 h2 h3 h4;subst h1 h2 h3 h4
 obtain⟨R,hR⟩:∃R,y8 (st0 (xq t))=R:=⟨_,rfl⟩
 have T:Hid (Calls Tryz.prog 165 #[.pointer (some ⟨V.heap.size,0,none⟩)] (V.alloc (.cells #[.slice (some ⟨wb,wo,none⟩) (st0 (xq t)).ws.length wl,.slice none 0 0,.int .i64 0,.string ⟨#[]⟩,.bool false,.int .i64 0,.slice none 0 0] 192)) fun e W'=>DidQ V (V.alloc (.cells #[.slice (some ⟨wb,wo,none⟩) (st0 (xq t)).ws.length wl,.slice none 0 0,.int .i64 0,.string ⟨#[]⟩,.bool false,.int .i64 0,.slice none 0 0] 192)) V.heap.size R e W'):=by rw[<-hR];exact qk3 _ _ _ _ _ _ a3 k
 have l:Hid (qa9 s=qg3 i R):=by rw[<-hR];exact a4
 have F:Hid (∀g,R=.error g->g.1≠0):=fun g hg=>qpn (hR.trans hg)
 have d:=qb V (.cells #[.slice (some ⟨wb,wo,none⟩) (st0 (xq t)).ws.length wl,.slice none 0 0,.int .i64 0,.string ⟨#[]⟩,.bool false,.int .i64 0,.slice none 0 0] 192);have b:=hid3 (qd HB.out m) (qf m D.out.1) (qf m D.out.2);have E:=hid2 (qf d b.out.2.1) (qf d b.out.2.2);clear HF Z a5 a4 a3 hR m D HB d k G
 go_upto_region 7 with fail
 generalize (st0 (xq t)).ws.length=wn at *
 generalize V.alloc (.cells #[.slice (some ⟨wb,wo,none⟩) wn wl,.slice none 0 0,.int .i64 0,.string ⟨#[]⟩,.bool false,.int .i64 0,.slice none 0 0] 192)=X0 at *
 go_wp2_with fail;refine T.out.mono ?_;rintro e X ⟨b3,H,a6,rfl,C,hk,hS⟩;have f:=hid4 C hS (hk.loc _ _ _ E.out.1 (by decide) (by decide) (by decide) (by decide)) (hk.loc _ _ _ E.out.2 (by decide) (by decide) (by decide) (by decide));clear C hk hS T E
 cases R with
 | error g =>
  obtain⟨j,z⟩:=g;have K:j≠0:=F.out _ rfl
  have b5:(j == 0)=false:=by simpa using K
  have b6:(j != 0)=true:=by simpa using K
  have HE:Hid (qa9 s=.error (j,z)):=by
   show _=_;rw[l.out];unfold qg3
   split <;> rfl
  rw[show fv (jr (.error (j,z):Except Flt St))=.agg #[.int .i64 j,.int .i64 z] from rfl];clear l F K;have d:=qb X (.cells #[.int .i64 j,.int .i64 z] 177);have b0:=heap_alloc_new X (.cells #[.int .i64 j,.int .i64 z] 177);have P:=qf d f.out.2.2.1;have Q:=qf d f.out.2.2.2;obtain⟨y0,y1,y2,y3,y4,y5,y6,y7⟩:=qbh P;obtain⟨q3,q4,z3,z4⟩:=kf Q;obtain⟨p0,p1,p2,p3⟩:=kf b0
  have b8:X.heap.size≠A:=fun e=>by have:=(Array.getElem?_eq_some_iff.1 f.out.2.2.1).1;omega
  have b9:X.heap.size≠h:=fun e=>by have:=(Array.getElem?_eq_some_iff.1 f.out.2.2.2).1;omega
  clear d b0 P Q;have a:Hid (Below w.heap.size w (X.alloc (.cells #[.int .i64 j,.int .i64 z] 177))):=qd (qd b.out.1 f.out.1.bel) (qb _ _)
  go_upto_region 11 with fail
  generalize X.alloc (.cells #[.int .i64 j,.int .i64 z] 177)=X1 at *
  generalize X.heap.size=fb at *
  clear f b;go_region;go_wp2_with fail;refine bodyPost_ret (v:=.tuple #[.agg #[.slice none 0 0,.string ⟨#[]⟩,.int .i64 0,.slice none 0 0],.agg #[.int .i64 j,.int .i64 z]]) (by simp[results,Tryz.results155,go_sem, *]) rfl ?_;refine⟨?_,by rw[HE.out];rfl⟩
  exact qd (((qdz (.slice none 0 0) (.string ⟨#[]⟩) (.int .i64 0) (.slice none 0 0) a.out c.out.1).setCell (p:=⟨h,0,none⟩) c.out.2.1 _).setCell (p:=⟨h,1,none⟩) c.out.2.1 _) (qo _)
 | ok S1 =>
  have a7:=f.out.2.1 S1 rfl;subst a7
  have HE:Hid (qa9 s=.ok H):=by
   show _=_;rw[l.out];unfold qg3;rw[if_pos a1]
  rw[show fv (jr (.ok H:Except Flt St))=.agg #[.int .i64 0,.int .i64 0] from rfl];have d:=qb X (.cells #[.int .i64 0,.int .i64 0] 177);obtain⟨p0,p1,p2,p3⟩:=kf (heap_alloc_new X (.cells #[.int .i64 0,.int .i64 0] 177));have HG:=hid (qk5 _ _ _ _ _ _ (f.out.1.step d));have a:=hid4 (qd (qd b.out.1 f.out.1.bel) d) (qf d f.out.2.2.1) (qf d f.out.2.2.2) b.out.1.size;clear d F l f b;go_wp2_with fail;refine HG.out.mono ?_;rintro e Y ⟨⟨N,O,L,M⟩,rfl,U,I⟩;have P:=qf I a.out.2.1;have Q:=qf I a.out.2.2.1
  have HY:Hid (OwnG Y w.heap.size ⟨N,O,L,M⟩ (gmOf H) a6/\Below w.heap.size w Y/\Loc Y A 25/\Loc Y h 177):=⟨⟨zc U.tok a.out.2.2.2,zc U.rul a.out.2.2.2,U.map,fun q hq=>zc (U.row q hq) a.out.2.2.2⟩,qd a.out.1 I,⟨_,P⟩,⟨_,Q⟩⟩
  obtain⟨y0,y1,y2,y3,y4,y5,y6,y7⟩:=qbh P;obtain⟨q3,q4,z3,z4⟩:=kf Q;clear U I P Q HG a p0 p1 p2 p3;unfold gv gmOf;simp only;go_wp2_with fail;refine bodyPost_ret (v:=.tuple #[.agg #[.slice N H.ts.length O,.string H.st,.int .i64 H.ex,.slice L H.rs.length M],.agg #[.int .i64 0,.int .i64 0]]) (by simp[results,Tryz.results155,go_sem, *]) rfl ?_;obtain⟨o,hb,l1,l2⟩:=HY.out;refine⟨((qdz _ _ _ _ hb c.out.1).setCell (p:=⟨h,0,none⟩) c.out.2.1 _).setCell (p:=⟨h,1,none⟩) c.out.2.1 _,?_⟩;rw[HE.out];refine⟨⟨N,O,L,M⟩,a6,rfl,?_⟩;exact(((((o.off l1 (by decide)).off (l1.set _ _ _) (by decide)).off ((l1.set _ _ _).set _ _ _) (by decide)).off (((l1.set _ _ _).set _ _ _).set _ _ _) (by decide)).off ((((l2.set _ _ _).set _ _ _).set _ _ _).set _ _ _) (by decide)).off (((((l2.set _ _ _).set _ _ _).set _ _ _).set _ _ _).set _ _ _) (by decide)
def tx1:ByteArray:=⟨#[37,108,101,102,116,32,80,32,37,108,101,102,116,32,77,32,37,116,111,107,101,110,32,78,32,37,37,32,101,58,32,101,32,80,32,101,32,124,32,101,32,77,32,101,32,124,32,78,59]⟩
def tx2:ByteArray:=⟨#[37,116,111,107,101,110,32,65,32,65,32,37,37]⟩
def tx3:ByteArray:=⟨#[37,37,32,101,32,58,32,124,32]⟩
def qg5 (R:Except Flt St) (k a:Int):Bool:=match R with | .error g=>g.1 == k && g.2 == a | .ok _=>false
def qn3 (R:Except Flt St):Bool:=match R with | .error _=>false | .ok S=>S.ts.length == 3 && S.rs.length == 3 && (tkAt S.ts 0).n.toList == [80]
theorem qrn{R:Except Flt St}{k a:Int}(h:qg5 R k a=true):R=.error (k,a):=by
 unfold qg5 at h
 split at h
 ·rename_i g;simp only[Bool.and_eq_true,beq_iff_eq]at h;obtain⟨b,c⟩:=g;simp only at h;rw[h.1,h.2]
 ·cases h
theorem qro{R:Except Flt St}(h:qn3 R=true):∃S,R=.ok S/\S.ts.length=3/\S.rs.length=3/\(tkAt S.ts 0).n.toList=[80]:=by
 unfold qn3 at h
 split at h
 ·cases h
 ·rename_i S;simp only[Bool.and_eq_true,beq_iff_eq]at h;exact⟨S,rfl,h.1.1,h.1.2,h.2⟩
def plB (x:Wd):Bool:=!(by8 x.t == by8 qgg) && !(by8 x.t == by8 tNon) && !(by8 x.t == by8 qgh) && !(by8 x.t == by8 tExp)
theorem qn4{l:List Wd}(h:l.all plB=true):∀x∈l,Pl x:=fun x b=>by
 have a:=List.all_eq_true.1 h x b;unfold plB at a;simp only[Bool.and_eq_true,Bool.not_eq_true',beq_eq_false_iff_ne]at a;exact⟨fun e=>a.1.1.1 (by rw[e]),fun e=>a.1.1.2 (by rw[e]),fun e=>a.1.2 (by rw[e]),fun e=>a.2 (by rw[e])⟩
def Ez (s:ByteArray):Prop:=¬2000<s.size/\(scan (by8 s)).2=-1/\∀x∈xq s,Pl x
theorem qk6:Ez tx1:=⟨by decide,by kernel_rfl,qn4 (by kernel_rfl)⟩
theorem qt5:Ez tx2:=⟨by decide,by kernel_rfl,qn4 (by kernel_rfl)⟩
theorem qt6:Ez tx3:=⟨by decide,by kernel_rfl,qn4 (by kernel_rfl)⟩
theorem qpo:qn3 (qa9 tx1)=true:=by kernel_rfl
theorem qpp:qg5 (qa9 tx2) 7 9=true:=by kernel_rfl
theorem qpq:qg5 (qa9 tx3) 1 9=true:=by kernel_rfl
theorem qjh(w:World)(c:Pow w):Calls Tryz.prog 156 #[] w fun e d=>e=.returned (.bool true)/\Below w.heap.size w d:=by
 have H:=hid (qkd w c);go_enter Tryz.func156,Tryz.ntmps156;go_wp2_with fail;refine H.out.mono ?_;rintro e V ⟨rfl,a⟩;have b:=hid a;clear a;go_wp2_with fail;go_ret;exact⟨rfl,b.out⟩
theorem qpr(w:World):Calls Tryz.prog 155 #[.string tx1] w fun e l=>∃a d C r j k p,e=.returned (.tuple #[.agg #[.slice (some ⟨a,0,none⟩) 3 d,.string C,.int .i64 r,.slice j 3 k],.agg #[.int .i64 0,.int .i64 0]])/\Below w.heap.size w l/\l.cell? ⟨a,0,none⟩=some (.string p)/\p.toList=[80]/\3<=d/\d<=9223372036854775807:=by
 obtain⟨S,v,s,u,i⟩:=qro qpo;refine(qg4 tx1 w qk6.1 qk6.2.1 qk6.2.2).mono ?_;rintro e l ⟨x,h⟩;rw[v]at h;obtain⟨⟨D,d,j,k⟩,qs,rfl,z⟩:=h;have f:=z.tok
 obtain⟨t,m⟩:∃t,S.ts[0]?=some t:=⟨S.ts[0]'(by omega),List.getElem?_eq_getElem _⟩
 obtain⟨E,c,e,B,q,g⟩:=zo f
 cases e
 obtain⟨a,rfl⟩:∃a,D=some ⟨a,0,none⟩:=by
  rcases g with ⟨-,g,-⟩ | g
  ·have:S.ts.length=0:=g;omega
  ·exact g
 obtain⟨b,o,y,A,-,-⟩:=jd (Row.of_own f) m
 cases y
 refine⟨a,d,S.st,S.ex,j,k,t.n,?_,x,?_,?_,?_,?_⟩
 ·unfold gv gmOf fv;simp only[s,u]
 ·simpa using A
 ·unfold tkAt at i;rw[m]at i;exact i
 ·have:S.ts.length<=d:=B;omega
 ·unfold maxLen at q;exact q
theorem qis(s:ByteArray)(w:World)(b:Ez s)(k a:Int)(h:qg5 (qa9 s) k a=true):Calls Tryz.prog 155 #[.string s] w fun e d=>e=.returned (.tuple #[.agg #[.slice none 0 0,.string ⟨#[]⟩,.int .i64 0,.slice none 0 0],.agg #[.int .i64 k,.int .i64 a]])/\Below w.heap.size w d:=by
 refine(qg4 s w b.1 b.2.1 b.2.2).mono ?_;rintro e d ⟨f,c⟩;rw[qrn h]at c;exact⟨c,f⟩
theorem qk7(w:World)(I:Pow w):Calls Tryz.prog 139 #[] w fun e t=>e=.returned (.bool true)/\Below w.heap.size w t:=by
 have Q:=hid I
 have H1:Hid (∀W:World,Calls Tryz.prog 155 #[.string ⟨#[37,108,101,102,116,32,80,32,37,108,101,102,116,32,77,32,37,116,111,107,101,110,32,78,32,37,37,32,101,58,32,101,32,80,32,101,32,124,32,101,32,77,32,101,32,124,32,78,59]⟩] W fun e t=>∃m i s n q r G,e=.returned (.tuple #[.agg #[.slice (some ⟨m,0,none⟩) 3 i,.string s,.int .i64 n,.slice q 3 r],.agg #[.int .i64 0,.int .i64 0]])/\Below W.heap.size W t/\t.cell? ⟨m,0,none⟩=some (.string G)/\G.toList=[80]/\3<=i/\i<=9223372036854775807):=fun W=>qpr W
 have O:Hid (∀W:World,Calls Tryz.prog 155 #[.string ⟨#[37,116,111,107,101,110,32,65,32,65,32,37,37]⟩] W fun e t=>e=.returned (.tuple #[.agg #[.slice none 0 0,.string ⟨#[]⟩,.int .i64 0,.slice none 0 0],.agg #[.int .i64 7,.int .i64 9]])/\Below W.heap.size W t):=fun W=>qis tx2 W qt5 7 9 qpp
 have P:Hid (∀W:World,Calls Tryz.prog 155 #[.string ⟨#[37,37,32,101,32,58,32,124,32]⟩] W fun e t=>e=.returned (.tuple #[.agg #[.slice none 0 0,.string ⟨#[]⟩,.int .i64 0,.slice none 0 0],.agg #[.int .i64 1,.int .i64 9]])/\Below W.heap.size W t):=fun W=>qis tx3 W qt6 1 9 qpq
 clear I;go_enter Tryz.func139,Tryz.ntmps139;go_wp2_with fail;refine(H1.out _).mono ?_;rintro e V ⟨m,i,s,n,q,r,G,rfl,v,B,C,J,K⟩;have u:Below V.heap.size V ((V.alloc (.cells #[.slice (some ⟨m,0,none⟩) 3 i,.string s,.int .i64 n,.slice q 3 r] 25)).alloc (.cells #[.int .i64 0,.int .i64 0] 177)):=qd (qb _ _) (qb _ _);have d:((V.alloc (.cells #[.slice (some ⟨m,0,none⟩) 3 i,.string s,.int .i64 n,.slice q 3 r] 25)).alloc (.cells #[.int .i64 0,.int .i64 0] 177)).heap[V.heap.size]?=some (.cells #[.slice (some ⟨m,0,none⟩) 3 i,.string s,.int .i64 n,.slice q 3 r] 25 (0,0)):=qf (qb _ _) (heap_alloc_new _ _)
 have f:((V.alloc (.cells #[.slice (some ⟨m,0,none⟩) 3 i,.string s,.int .i64 n,.slice q 3 r] 25)).alloc (.cells #[.int .i64 0,.int .i64 0] 177)).heap[V.heap.size+1]?=some (.cells #[.int .i64 0,.int .i64 0] 177 (0,0)):=by
  have:=heap_alloc_new (V.alloc (.cells #[.slice (some ⟨m,0,none⟩) 3 i,.string s,.int .i64 n,.slice q 3 r] 25)) (.cells #[.int .i64 0,.int .i64 0] 177)
  rwa [qz]at this
 go_upto_region 2 with fail
 obtain⟨L,D⟩:∃L,L=V.heap.size:=⟨_,rfl⟩
 rw[<-D]at d f ⊢
 generalize (V.alloc (.cells #[.slice (some ⟨m,0,none⟩) 3 i,.string s,.int .i64 n,.slice q 3 r] 25)).alloc (.cells #[.int .i64 0,.int .i64 0] 177)=S at *
 have a:=hid4 (qd v u) d f (qt u B);clear v u d f B D;go_wp2_with fail;refine(O.out _).mono ?_;rintro e X ⟨rfl,x⟩;have z:Below X.heap.size X ((X.alloc (.cells #[.slice none 0 0,.string ⟨#[]⟩,.int .i64 0,.slice none 0 0] 25)).alloc (.cells #[.int .i64 7,.int .i64 9] 177)):=qd (qb _ _) (qb _ _);have o:((X.alloc (.cells #[.slice none 0 0,.string ⟨#[]⟩,.int .i64 0,.slice none 0 0] 25)).alloc (.cells #[.int .i64 7,.int .i64 9] 177)).heap[X.heap.size]?=some (.cells #[.slice none 0 0,.string ⟨#[]⟩,.int .i64 0,.slice none 0 0] 25 (0,0)):=qf (qb _ _) (heap_alloc_new _ _)
 have g:((X.alloc (.cells #[.slice none 0 0,.string ⟨#[]⟩,.int .i64 0,.slice none 0 0] 25)).alloc (.cells #[.int .i64 7,.int .i64 9] 177)).heap[X.heap.size+1]?=some (.cells #[.int .i64 7,.int .i64 9] 177 (0,0)):=by
  have:=heap_alloc_new (X.alloc (.cells #[.slice none 0 0,.string ⟨#[]⟩,.int .i64 0,.slice none 0 0] 25)) (.cells #[.int .i64 7,.int .i64 9] 177)
  rwa [qz]at this
 go_upto_region 3 with fail
 obtain⟨M,E⟩:∃M,M=X.heap.size:=⟨_,rfl⟩
 rw[<-E]at o g ⊢
 generalize (X.alloc (.cells #[.slice none 0 0,.string ⟨#[]⟩,.int .i64 0,.slice none 0 0] 25)).alloc (.cells #[.int .i64 7,.int .i64 9] 177)=T at *
 have k:=hid2 (qd x z) g;clear x z o g E;go_wp2_with fail;refine(P.out _).mono ?_;rintro e Y ⟨rfl,y⟩;have A:Below Y.heap.size Y ((Y.alloc (.cells #[.slice none 0 0,.string ⟨#[]⟩,.int .i64 0,.slice none 0 0] 25)).alloc (.cells #[.int .i64 1,.int .i64 9] 177)):=qd (qb _ _) (qb _ _);have p:((Y.alloc (.cells #[.slice none 0 0,.string ⟨#[]⟩,.int .i64 0,.slice none 0 0] 25)).alloc (.cells #[.int .i64 1,.int .i64 9] 177)).heap[Y.heap.size]?=some (.cells #[.slice none 0 0,.string ⟨#[]⟩,.int .i64 0,.slice none 0 0] 25 (0,0)):=qf (qb _ _) (heap_alloc_new _ _)
 have h:((Y.alloc (.cells #[.slice none 0 0,.string ⟨#[]⟩,.int .i64 0,.slice none 0 0] 25)).alloc (.cells #[.int .i64 1,.int .i64 9] 177)).heap[Y.heap.size+1]?=some (.cells #[.int .i64 1,.int .i64 9] 177 (0,0)):=by
  have:=heap_alloc_new (Y.alloc (.cells #[.slice none 0 0,.string ⟨#[]⟩,.int .i64 0,.slice none 0 0] 25)) (.cells #[.int .i64 1,.int .i64 9] 177)
  rwa [qz]at this
 go_upto_region 4 with fail
 obtain⟨N,F⟩:∃N,N=Y.heap.size:=⟨_,rfl⟩
 rw[<-F]at p h ⊢
 generalize (Y.alloc (.cells #[.slice none 0 0,.string ⟨#[]⟩,.int .i64 0,.slice none 0 0] 25)).alloc (.cells #[.int .i64 1,.int .i64 9] 177)=Y1 at *
 have b:=hid2 (qd y A) h;clear y A p h F;have j:=hid2 (qd k.out.1 b.out.1) (qd a.out.1 (qd k.out.1 b.out.1));go_wp2_with fail;refine(qjh Y1 (Q.out.below j.out.2)).mono ?_;rintro e U ⟨rfl,c⟩;have l:=qd j.out.1 c;obtain⟨Z,a1,a2,a3,-,-,-,-⟩:=qbh (qf l a.out.2.1);obtain⟨a4,a5,-,-⟩:=kf (qf l a.out.2.2.1);have a6:=qt l a.out.2.2.2;obtain⟨b4,b5,-,-⟩:=kf (qf (qd b.out.1 c) k.out.2);obtain⟨d4,d5,-,-⟩:=kf (qf c b.out.2);have R:=hid (qd j.out.2 c)
 have H:(G.toList == [80])=true:=by rw[C];rfl
 clear l c a k b j C;go_wp2_with fail;go_ret;exact⟨rfl,R.out⟩
theorem u23:Tryz.prog.underlying 23=some (.slice 42):=by kernel_rfl
theorem qps(qs:List (Ru × Option Addr × Nat))(q:Ru × Option Addr × Nat):rulC (qs++[q])=rulC qs++[.string q.1.l,.slice q.2.1 q.1.r.length q.2.2,.string q.1.p]:=by unfold rulC;rw[List.flatMap_append];rfl
theorem OwnG.addRu{W:World}{a:Nat}{h:Hd}{G:Gm}{qs:List (Ru × Option Addr × Nat)}(o:OwnG W a h G qs)(q:Ru × Option Addr × Nat)(n:Nat)(z:G.rs.length=n)(H:OwnS W a (.slice q.2.1 q.1.r.length q.2.2) q.1.r)(A:a<=W.heap.size)(L:n<10000):
  ∃g c f,(Builtin.append_ #[23,23] 23 #[.slice h.ra n h.rc,.slice (some ⟨W.heap.size,0,none⟩) 1 1]).run Tryz.prog (W.alloc (.cells #[.string q.1.l,.slice q.2.1 q.1.r.length q.2.2,.string q.1.p] 42))=.ok (.slice (some ⟨g,0,none⟩) (n+1) c) f/\OwnG f a ⟨h.ta,h.tc,some ⟨g,0,none⟩,c⟩ ⟨G.ts,G.s,G.e,G.rs++[q.1]⟩ (qs++[q])/\Kept (fun k=>blk h.ra=some k) W f/\(∀(b T:Nat) (d:Array Value),W.heap[b]?=some (.cells d T (0,0))->T≠42->f.heap[b]?=some (.cells d T (0,0))):=by
 subst z;obtain⟨g,c,f,I,m,F,K⟩:=xy (us:=[.string q.1.l,.slice q.2.1 q.1.r.length q.2.2,.string q.1.p]) u23 Tryz.info42 rfl (by decide) (by decide) rfl (fun u y=>by simp at y;rcases y with rfl | rfl | rfl <;> rfl) o.rul A (by omega)
 have j:=((Kept.refl _ W).alloc _).trans F (fun k _ e=>ze e)
 have stay:∀{E k n:Nat} {v:Value} {cs:List Value},W.ownsRow a E k v n cs->E≠42->f.ownsRow a E k v n cs:=fun m B=>vp m j (fun i D e=>qu (za m D) (qw o.rul e).2.2 B rfl)
 refine⟨g,c,f,I,⟨stay o.tok (by decide),?_,by rw[List.map_append,o.map];rfl,?_⟩,j,fun b T d t C=>?_⟩
 ·rw[qps];simp only[List.length_append,List.length_cons,List.length_nil];exact m
 ·intro J x
  rcases List.mem_append.1 x with h1 | h1
  ·exact stay (o.row J h1) (by decide)
  ·rw[List.mem_singleton]at h1;subst h1;exact stay H (by decide)
 ·rw[j.block _ (Array.getElem?_eq_some_iff.1 t).1 (fun e=>qu ⟨_,t⟩ (qw o.rul e).2.2 C rfl)];exact t
theorem qji(w:World)(c:Pow w):Calls Tryz.prog 113 #[] w fun e d=>e=.returned (.bool true)/\Below w.heap.size w d:=by
 have H:=hid (qk7 w c);go_enter Tryz.func113,Tryz.ntmps113;go_wp2_with fail;refine H.out.mono ?_;rintro e V ⟨rfl,a⟩;have b:=hid a;clear a;go_wp2_with fail;go_ret;exact⟨rfl,b.out⟩
theorem qmd:Small qa7:=by
 have h:=qap
 have b:bX.size<=100:=by decide
 refine⟨h.nt,by decide,h.st,h.tk,fun r a=>?_⟩
 rcases List.mem_append.1 a with a | a
 ·exact h.rl r a
 ·rw[List.mem_singleton]at a;subst a;refine⟨b,by decide,by decide,fun x c=>?_⟩;rw[List.mem_singleton]at c;subst c;exact b
theorem qrp(w:World):IsG w ⟨none,0,none,0⟩ qjp:=⟨⟨rfl,Nat.le_refl _,Nat.zero_le _,.inl ⟨rfl,rfl,rfl⟩⟩,⟨[],rfl,⟨rfl,Nat.le_refl _,Nat.zero_le _,.inl ⟨rfl,rfl,rfl⟩⟩,fun q h=>(by cases h)⟩,⟨by decide,by decide,by decide,fun t h=>(by cases h),fun r h=>(by cases h)⟩⟩
theorem qm2(h:SHd):sC h (spG q9)=#[.int .i64 3,.int .i64 1,.int .i64 4,.int .i64 0,.slice h.na 5 h.nc,.slice h.la 3 h.lc,.slice h.aa 3 h.ac,.slice h.ra 4 h.rc]:=by
 have e:(nmG q9).length=5:=by rw[jt,ye];rfl
 rw[x8];unfold sC;simp only[e];rfl
theorem qk8(W:World)(h:Hd)(n:IsG W h q9):Calls Tryz.prog 112 #[gv h q9] W fun e l=>∃g i d f b c j a,e=.returned (.tuple #[.agg #[.int .i64 3,.int .i64 1,.int .i64 4,.int .i64 0,.slice g 5 i,.slice d 3 f,.slice b 3 c,.slice j 4 a],.int .i64 0])/\(IsSp l ⟨g,i,d,f,b,c,j,a⟩ (spG q9)/\4<=a/\a<=9223372036854775807)/\Below W.heap.size W l:=by
 refine(qko q9 h W 0 n qhw).mono ?_;rintro e l ⟨k,m⟩
 rcases k with ⟨k,-⟩ | ⟨-,⟨g,i,d,f,b,c,j,a⟩,rfl,hs⟩
 ·exact absurd rfl k
 ·refine⟨g,i,d,f,b,c,j,a,by unfold sv;rw[qm2],⟨hs,?_⟩,m⟩
  have:=vn hs.rl
  have e:(spG q9).rs.length=4:=by rw[x8];rfl
  rw[e]at this;exact this
theorem qfk(G:Gm)(k:Int)(W:World)(h:Hd)(f:IsG W h G)(g:OfR G k)(c:k≠0):Calls Tryz.prog 112 #[gv h G] W fun e b=>e=.returned (.tuple #[.agg zC,.int .i64 k])/\Below W.heap.size W b:=by
 refine(qko G h W k f g).mono ?_;rintro e b ⟨a,d⟩
 rcases a with ⟨-,a⟩ | ⟨a,-⟩
 ·exact⟨a,d⟩
 ·exact absurd a c
theorem qme(W:World)(h:SHd)(m:IsSp W h (spG q9)):Calls Tryz.prog 107 #[.agg #[.int .i64 3,.int .i64 1,.int .i64 4,.int .i64 0,.slice h.na 5 h.nc,.slice h.la 3 h.lc,.slice h.aa 3 h.ac,.slice h.ra 4 h.rc]] W fun e b=>∃a,e=.returned (.slice (some ⟨a,0,none⟩) 5 5)/\b.cell? ⟨a,4,none⟩=some (.bool true)/\b.cell? ⟨a,3,none⟩=some (.bool false)/\Below W.heap.size W b:=by
 have:=qb9 W h (spG q9) 5 (by rw[x8];rfl) (qer qb7 qds qc9) m
 unfold sv at this;rw[qm2]at this;refine this.mono ?_;rintro e b ⟨a,fd,rfl,f,g,i,l⟩;have d:=qc8 g f (show 4<5 by omega);have c:=qc8 g f (show 3<5 by omega);have k:=(qay i (by omega)).2 qij
 have j:isF fd 3=false:=by
  cases n:isF fd 3
  ·rfl
  ·exact absurd ((qay i (by omega)).1 n) qpk
 rw[k]at d;rw[j]at c;exact⟨a,rfl,d,c,l⟩
theorem qk9(w:World)(hp:Pow w):Calls Tryz.prog 86 #[] w fun e l=>e=.returned (.bool true)/\Below w.heap.size w l:=by
 have HP:=hid hp;clear hp
 have N:Hid (∀V:World,Calls Tryz.prog 18 #[] V fun e l=>∃ta tc m j,e=.returned (.agg #[.slice ta 3 tc,.string ⟨#[]⟩,.int .i64 0,.slice m 3 j])/\(∃qs,OwnG l V.heap.size ⟨ta,tc,m,j⟩ q9 qs)/\Below V.heap.size V l):=fun V=>(qdi V).mono (fun e l ⟨⟨ta,tc,m,j⟩,qs,he,ho,hb⟩=>⟨ta,tc,m,j,he,⟨qs,ho⟩,hb⟩)
 go_enter Tryz.func86,Tryz.ntmps86;go_wp2_with fail;refine(N.out _).mono ?_;rintro e V1 ⟨ta,tc,a7,a8,rfl,Z,a1⟩;have H1:=hid2 Z a1
 have y:Hid (Calls Tryz.prog 112 #[.agg #[.slice ta 3 tc,.string ⟨#[]⟩,.int .i64 0,.slice a7 3 a8]] V1 fun e l=>∃F G C D z A m j,e=.returned (.tuple #[.agg #[.int .i64 3,.int .i64 1,.int .i64 4,.int .i64 0,.slice F 5 G,.slice C 3 D,.slice z 3 A,.slice m 4 j],.int .i64 0])/\(IsSp l ⟨F,G,C,D,z,A,m,j⟩ (spG q9)/\4<=j/\j<=9223372036854775807)/\Below V1.heap.size V1 l):=by
  obtain⟨qs,ho⟩:=Z;exact qk8 V1 ⟨ta,tc,a7,a8⟩ (ho.isG qap)
 clear Z a1;go_wp2_with fail;refine y.out.mono ?_;rintro e O ⟨F,G,C,D,z,A,m,j,rfl,⟨hs,b0,b1⟩,a2⟩;have b:Below O.heap.size O (O.alloc (.cells #[.int .i64 3,.int .i64 1,.int .i64 4,.int .i64 0,.slice F 5 G,.slice C 3 D,.slice z 3 A,.slice m 4 j] 31)):=qb _ _;have hx:(O.alloc (.cells #[.int .i64 3,.int .i64 1,.int .i64 4,.int .i64 0,.slice F 5 G,.slice C 3 D,.slice z 3 A,.slice m 4 j] 31)).heap[O.heap.size]?=some (.cells #[.int .i64 3,.int .i64 1,.int .i64 4,.int .i64 0,.slice F 5 G,.slice C 3 D,.slice z 3 A,.slice m 4 j] 31 (0,0)):=heap_alloc_new _ _;have H2:=hid3 (hs.below b) hx (qd (qd H1.out.2 a2) b);clear hs b hx a2 y H1
 go_upto_region 2 with fail
 generalize O.alloc (.cells #[.int .i64 3,.int .i64 1,.int .i64 4,.int .i64 0,.slice F 5 G,.slice C 3 D,.slice z 3 A,.slice m 4 j] 31)=P at H2 ⊢;generalize O.heap.size=sb at H2 ⊢;go_wp2_with fail;refine(N.out _).mono ?_;rintro e Q ⟨f,h,u,x,rfl,⟨a9,a5⟩,T⟩;have b:Below Q.heap.size Q (Q.alloc (.cells #[.slice f 3 h,.string ⟨#[]⟩,.int .i64 0,.slice u 3 x] 25)):=qb _ _;have hx:(Q.alloc (.cells #[.slice f 3 h,.string ⟨#[]⟩,.int .i64 0,.slice u 3 x] 25)).heap[Q.heap.size]?=some (.cells #[.slice f 3 h,.string ⟨#[]⟩,.int .i64 0,.slice u 3 x] 25 (0,0)):=heap_alloc_new _ _;have a:=hid4 (a5.below b) hx (qd T b) T.size;clear a5 b hx T N
 go_upto_region 3 with fail
 generalize Q.alloc (.cells #[.slice f 3 h,.string ⟨#[]⟩,.int .i64 0,.slice u 3 x] 25)=r at a ⊢;generalize Q.heap.size=I at a ⊢;have b:Below r.heap.size r (r.alloc (.cells #[.string ⟨#[120]⟩] 9)):=qb _ _;have L:OwnS (r.alloc (.cells #[.string ⟨#[120]⟩] 9)) P.heap.size (.slice (some ⟨r.heap.size,0,none⟩) 1 1) [bX]:=yh r P.heap.size 9 1 1 [.string bX] a.out.2.2.1.size rfl (by omega);obtain⟨g,c,R,a0,t,a4,H⟩:=(a.out.1.below b).addRu (⟨bX,[bX],e0⟩,some ⟨r.heap.size,0,none⟩,1) 3 rfl L (by rw[qz];have:=a.out.2.2.1.size;omega) (by omega)
 have K:(Builtin.append_ #[23,23] 23 #[.slice u 3 x,.slice (some ⟨r.heap.size+1,0,none⟩) 1 1]).run Tryz.prog ((r.alloc (.cells #[.string ⟨#[120]⟩] 9)).alloc (.cells #[.string ⟨#[120]⟩,.slice (some ⟨r.heap.size,0,none⟩) 1 1,.string ⟨#[]⟩] 42))=.ok (.slice (some ⟨g,0,none⟩) 4 c) R:=by
  rw[qz]at a0;exact a0
 have d:=H I 25 _ (qf b a.out.2.1) (by decide);have p3:=(box4 a.out.2.1).2.2.2;have y3:=(box4 d).2.2.2;have f3:=qj d 3
 have o:Hid (OwnG (R.setCell ⟨I,3,none⟩ (.slice (some ⟨g,0,none⟩) 4 c)) P.heap.size ⟨f,h,some ⟨g,0,none⟩,c⟩ qa7 (a9++[(⟨bX,[bX],e0⟩,some ⟨r.heap.size,0,none⟩,1)])/\(R.setCell ⟨I,3,none⟩ (.slice (some ⟨g,0,none⟩) 4 c)).heap[I]?=some (.cells #[.slice f 3 h,.string ⟨#[]⟩,.int .i64 0,.slice (some ⟨g,0,none⟩) 4 c] 25 (0,0))/\Below P.heap.size P (R.setCell ⟨I,3,none⟩ (.slice (some ⟨g,0,none⟩) 4 c))):=by
  have Y:∀{E k n:Nat} {v:Value} {cs:List Value},R.ownsRow P.heap.size E k v n cs->E≠25->(R.setCell ⟨I,3,none⟩ (.slice (some ⟨g,0,none⟩) 4 c)).ownsRow P.heap.size E k v n cs:=fun ho hE=>qh ho (fun i hi=>Below.heap_setCell _ _ _ _ (qu (za ho hi) ⟨_,d⟩ hE))
  refine⟨⟨Y t.tok (by decide),Y t.rul (by decide),t.map,fun q hq=>Y (t.row q hq) (by decide)⟩,?_,?_⟩
  ·rw[qk4 _ d];rfl
  ·refine((qd a.out.2.2.1 b).trans (a4.below (qd a.out.2.2.1 b).size (fun k hk e=>?_))).setCell (p:=⟨I,3,none⟩) a.out.2.2.2 _;have:=(qw (a.out.1.below b).rul e).1;omega
 clear b L a0 t a4 H d a
 go_upto_region 4 with (at_builtin;refine Lib.wpList_append_run _ rfl _ _ _ _ rfl _ _ rfl rfl _ _ K ?_)
 generalize R.setCell ⟨I,3,none⟩ (.slice (some ⟨g,0,none⟩) 4 c)=V7 at o ⊢;clear K p3 y3 f3;obtain⟨p0,p1,p2,p3⟩:=box4 o.out.2.1;have y:Hid (Calls Tryz.prog 112 #[.agg #[.slice f 3 h,.string ⟨#[]⟩,.int .i64 0,.slice (some ⟨g,0,none⟩) 4 c]] V7 fun e l=>e=.returned (.tuple #[.agg zC,.int .i64 8])/\Below V7.heap.size V7 l):=qfk qa7 8 V7 ⟨f,h,some ⟨g,0,none⟩,c⟩ (o.out.1.isG qmd) qrf (by decide);unfold zC sC at y;go_wp2_with fail;refine y.out.mono ?_;rintro e V8 ⟨rfl,a3⟩;have H8:=hid (qd o.out.2.2 a3);clear a3 y o p0 p1 p2 p3
 have y:Hid (∀V:World,Calls Tryz.prog 112 #[.agg #[.slice none 0 0,.string ⟨#[]⟩,.int .i64 0,.slice none 0 0]] V fun e l=>e=.returned (.tuple #[.agg zC,.int .i64 7])/\Below V.heap.size V l):=fun V=>qfk qjp 7 V ⟨none,0,none,0⟩ (qrp V) qs6 (by decide)
 unfold zC sC at y;go_wp2_with fail;refine(y.out _).mono ?_;rintro e V9 ⟨rfl,B⟩;have a6:=qf (qd H8.out (qd (qb _ _) B)) H2.out.2.1;have H9:=hid3 (H2.out.1.below (qd H8.out (qd (qb _ _) B))) a6 (qd H2.out.2.2 (qd H8.out (qd (qb _ _) B)));clear a6 B y H8 H2;have b:Below V9.heap.size V9 (V9.alloc (.cells zC 31)):=qb _ _;have M:=hid3 (H9.out.1.below b) (qf b H9.out.2.1) (qd H9.out.2.2 b);unfold zC sC at M;clear b
 go_upto_region 6 with fail
 obtain⟨S,X⟩:∃S,S=V9.alloc (.cells #[.int .i64 ((0:Nat):Int),.int .i64 ((0:Nat):Int),.int .i64 ((0:Nat):Int),.int .i64 0,.slice none ([]:List ByteArray).length 0,.slice none ([]:List Int).length 0,.slice none ([]:List Int).length 0,.slice none ([]:List SR).length 0] 31):=⟨_,rfl⟩
 rw[<-X]at M;have J:V9.alloc (.cells #[.int .i64 0,.int .i64 0,.int .i64 0,.int .i64 0,.slice none 0 0,.slice none 0 0,.slice none 0 0,.slice none 0 0] 31)=S:=X.symm;rw[J];clear X J H9;obtain⟨c0,c1,c2,c3,c4,c5,c6,c7⟩:=box8 M.out.2.1;have HY:Hid (Calls Tryz.prog 107 #[.agg #[.int .i64 3,.int .i64 1,.int .i64 4,.int .i64 0,.slice F 5 G,.slice C 3 D,.slice z 3 A,.slice m 4 j]] S fun e l=>∃fb,e=.returned (.slice (some ⟨fb,0,none⟩) 5 5)/\l.cell? ⟨fb,4,none⟩=some (.bool true)/\l.cell? ⟨fb,3,none⟩=some (.bool false)/\Below S.heap.size S l):=qme S ⟨F,G,C,D,z,A,m,j⟩ M.out.1;go_wp2_with fail;refine HY.out.mono ?_;rintro e VB ⟨fb,rfl,y4,y3,U⟩;have HB:=hid4 (qf U M.out.2.1) (qd M.out.2.2 U) y4 y3;clear c0 c1 c2 c3 c4 c5 c6 c7 HY M U y4 y3;go_wp2_with fail;refine(qji VB (HP.out.below HB.out.2.1)).mono ?_;rintro e VC ⟨rfl,s⟩;obtain⟨c0,c1,c2,c3,c4,c5,c6,c7⟩:=box8 (qf s HB.out.1);have y4:=qt s HB.out.2.2.1;have y3:=qt s HB.out.2.2.2;have HE:=hid (qd HB.out.2.1 s);clear s HB;go_wp2_with fail;go_ret;exact⟨rfl,HE.out⟩
theorem qrq{rs:List Ru}(a:rs≠[]){x:ByteArray}(d:(lfs rs)[0]?=some x):((rs[0]?).map (·.l)).getD e0=x:=by
 have b:∀(rs:List Ru) (l:List ByteArray) (x:ByteArray),l[0]?=some x->(rs.foldl lfS l)[0]?=some x:=by
  intro rs
  induction rs with
  | nil=>intro l x h;exact h
  | cons r rs ih =>
   intro l x h;rw[List.foldl_cons];refine ih _ x ?_;unfold lfS
   split
   ·exact h
   ·rw[List.getElem?_append_left (List.getElem?_eq_some_iff.1 h).1];exact h
 cases rs with
 | nil=>exact absurd rfl a
 | cons r rs =>
  have c:(lfs (r :: rs))[0]?=some r.l:=b rs (lfS [] r) r.l rfl;rw[d]at c
  cases c
  rfl
theorem qpt(G:Gm)(h:Hd)(w:World)(k:Int)(hG:IsG w h G)(hk:OfR G k):Calls Tryz.prog 9 #[gv h G] w fun e w'=>((k≠0/\e=.returned (.tuple #[.agg zC,.int .i64 k]))\/(k=0/\∃B,e=.returned (.tuple #[sv B (spG G),.int .i64 0])/\IsSp w' B (spG G)))/\Below w.heap.size w w':=by
 have a0:=hG.small.nt;have a1:=hG.small.nr;have p8:=kv hG.rul;have HG:=hid hG;have HK:=hid hk;clear hG hk;obtain⟨bm,o9⟩:=zv (MayP G);have i1:=hid o9
 have d4:Hid (∀V,Below w.heap.size w V->Calls Tryz.prog 20 #[gv h G] V fun e w'=>e=.returned (.bool bm)/\Below V.heap.size V w'):=fun V Z=>qnt G h V bm (HG.out.below Z) i1.out
 obtain⟨bl,o8⟩:=zv (vo G);have i0:=hid o8
 have c9:Hid (∀V,Below w.heap.size w V->Calls Tryz.prog 21 #[gv h G] V fun e w'=>e=.returned (.bool bl)/\Below V.heap.size V w'):=fun V Z=>ql7 G h V (HG.out.below Z) bl i0.out
 obtain⟨bn,p4⟩:=zv (NmP G);have i2:=hid p4
 have d6:Hid (∀V,Below w.heap.size w V->Calls Tryz.prog 22 #[gv h G] V fun e w'=>e=.returned (.bool bn)/\Below V.heap.size V w'):=fun V Z=>qkn G h V (HG.out.below Z) bn i2.out
 obtain⟨m,HM⟩:∃m,Hid ((lfs G.rs).length=m):=⟨_,rfl⟩
 have u5:m<=200:=by have:=vu G.rs;have:=HM.out;omega
 have d3:Hid (∀V,Below w.heap.size w V->Calls Tryz.prog 23 #[gv h G] V fun e w'=>∃ao c,e=.returned (.slice ao m c)/\Row w' 1 ao m c (strC (lfs G.rs))/\Below V.heap.size V w'):=fun V Z=>by
  have:=qcc G h V (HG.out.below Z);rw[HM.out]at this;exact this.mono (fun e w' ⟨ao,c,he,ho,hb⟩=>⟨ao,c,he,Row.of_own ho,hb⟩)
 clear o9 o8 p4;obtain⟨H,C,Y,E⟩:=h;unfold gv at d4 c9 d6 d3 ⊢;simp only at p8 d4 c9 d6 d3 ⊢
 have r5:G.ts.length<=C/\C<=9223372036854775807:=by have h1:=HG.out.tok.le;have h2:=HG.out.tok.max;simp only at h1 h2;unfold maxLen at h2;omega
 have h5:Below w.heap.size w ((w.alloc (.cells #[.slice H G.ts.length C,.string G.s,.int .i64 G.e,.slice Y G.rs.length E] 25)).alloc (.cells zC 31)):=qd (qb _ _) (qb _ _);have b5:((w.alloc (.cells #[.slice H G.ts.length C,.string G.s,.int .i64 G.e,.slice Y G.rs.length E] 25)).alloc (.cells zC 31)).heap[w.heap.size]?=some (.cells #[.slice H G.ts.length C,.string G.s,.int .i64 G.e,.slice Y G.rs.length E] 25 (0,0)):=qf (qb _ _) (heap_alloc_new _ _)
 have b3:((w.alloc (.cells #[.slice H G.ts.length C,.string G.s,.int .i64 G.e,.slice Y G.rs.length E] 25)).alloc (.cells zC 31)).heap[w.heap.size+1]?=some (.cells zC 31 (0,0)):=by
  have:=heap_alloc_new (w.alloc (.cells #[.slice H G.ts.length C,.string G.s,.int .i64 G.e,.slice Y G.rs.length E] 25)) (.cells zC 31)
  rwa [qz]at this
 obtain⟨tn,F⟩:∃tn,Hid (G.ts.length=tn):=⟨_,rfl⟩
 obtain⟨rn,a3⟩:∃rn,Hid (G.rs.length=rn):=⟨_,rfl⟩
 rw[F.out]at a0 r5 d4 c9 d6 d3 h5 b5 b3 ⊢;rw[a3.out]at a1 p8 d4 c9 d6 d3 h5 b5 b3 ⊢;go_enter Tryz.func9,Tryz.ntmps9
 go_upto_region 1 with fail
 have ez:(w.alloc (.cells #[.slice H tn C,.string G.s,.int .i64 G.e,.slice Y rn E] 25)).alloc (.cells #[.int .i64 0,.int .i64 0,.int .i64 0,.int .i64 0,.slice none 0 0,.slice none 0 0,.slice none 0 0,.slice none 0 0] 31)=(w.alloc (.cells #[.slice H tn C,.string G.s,.int .i64 G.e,.slice Y rn E] 25)).alloc (.cells zC 31):=rfl;rw[ez];generalize (w.alloc (.cells #[.slice H tn C,.string G.s,.int .i64 G.e,.slice Y rn E] 25)).alloc (.cells zC 31)=W1 at h5 b5 b3 ⊢
 obtain⟨u,l9⟩:∃u,Hid (u=w.heap.size):=⟨_,rfl⟩
 rw[<-l9.out]at b5 b3 ⊢
 have f9:Hid (w.heap.size<=u+1):=by rw[l9.out];exact Nat.le_succ _
 generalize u+1=T at b3 f9 ⊢
 have i6:Hid (∀U V:World,(U.heap[u]?=some (.cells #[.slice H tn C,.string G.s,.int .i64 G.e,.slice Y rn E] 25 (0,0))/\U.heap[T]?=some (.cells zC 31 (0,0))/\Below w.heap.size w U)->Below U.heap.size U V->(V.heap[u]?=some (.cells #[.slice H tn C,.string G.s,.int .i64 G.e,.slice Y rn E] 25 (0,0))/\V.heap[T]?=some (.cells zC 31 (0,0))/\Below w.heap.size w V)):=fun U V h1 h2=>⟨qf h2 h1.1,qf h2 h1.2.1,qd h1.2.2 h2⟩
 have H1:=hid3 b5 b3 h5;obtain⟨p0,p1,p2,p3⟩:=box4 b5;clear ez h5 b5 b3 l9;go_wp2_with fail;refine(d4.out _ H1.out.2.2).mono ?_;rintro e W2 ⟨rfl,o3⟩;have H2:=hid (i6.out _ _ H1.out o3);clear H1 o3 p0 p1 p2 p3 d4
 rcases bm with _ | _
 ·have O:Hid (k=1):=by
   have hn:¬MayP G:=fun e=>by have:=i1.out.2 e;cases this
   rcases HK.out with e | e | e | e | e
   ·exact e.1
   ·exact absurd e.2.1 hn
   ·exact absurd e.2.1 hn
   ·exact absurd e.2.1 hn
   ·exact absurd e.2.1 hn
  obtain⟨z0,z1,z2,z3,z4,z5,z6,z7⟩:=box8 H2.out.2.1;obtain⟨f0,f1,f2,f3,f4,f5,f6,f7⟩:=qa6 H2.out.2.1
  have HF:Hid (∀v0 v1 v2 v3 v4 v5 v6 v7,Below w.heap.size w (set8 W2 T v0 v1 v2 v3 v4 v5 v6 v7)):=fun v0 v1 v2 v3 v4 v5 v6 v7=>jh H2.out.2.2 f9.out
  go_wp2_with fail;refine bodyPost_ret (v:=.tuple #[.agg zC,.int .i64 1]) (by unfold zC sC;simp[results,Tryz.results9,go_sem, *]) rfl ?_
  exact⟨.inl ⟨by rw[O.out];decide,by rw[O.out]⟩,HF.out _ _ _ _ _ _ _ _⟩
 have b4:=hid (i1.out.1 rfl);clear i1;obtain⟨p0,p1,p2,p3⟩:=box4 H2.out.1;go_wp2_with fail;refine(c9.out _ H2.out.2.2).mono ?_;rintro e W3 ⟨rfl,o4⟩;have H3:=hid (i6.out _ _ H2.out o4);clear H2 o4 p0 p1 p2 p3 c9
 rcases bl with _ | _
 rotate_left
 ·have O:Hid (k=6):=by
   have hn:=i0.out.1 rfl;have hm:=b4.out
   rcases HK.out with e | e | e | e | e
   ·exact absurd hm e.2
   ·exact e.1
   ·exact absurd hn e.2.2.1
   ·exact absurd hn e.2.2.1
   ·exact absurd hn e.2.2.1
  obtain⟨z0,z1,z2,z3,z4,z5,z6,z7⟩:=box8 H3.out.2.1;obtain⟨f0,f1,f2,f3,f4,f5,f6,f7⟩:=qa6 H3.out.2.1
  have HF:Hid (∀v0 v1 v2 v3 v4 v5 v6 v7,Below w.heap.size w (set8 W3 T v0 v1 v2 v3 v4 v5 v6 v7)):=fun v0 v1 v2 v3 v4 v5 v6 v7=>jh H3.out.2.2 f9.out
  go_wp2_with fail;refine bodyPost_ret (v:=.tuple #[.agg zC,.int .i64 6]) (by unfold zC sC;simp[results,Tryz.results9,go_sem, *]) rfl ?_
  exact⟨.inl ⟨by rw[O.out];decide,by rw[O.out]⟩,HF.out _ _ _ _ _ _ _ _⟩
 have f8:Hid (¬vo G):=fun e=>by have:=i0.out.2 e;cases this
 clear i0;obtain⟨p0,p1,p2,p3⟩:=box4 H3.out.1;go_wp2_with fail;refine(d6.out _ H3.out.2.2).mono ?_;rintro e W4 ⟨rfl,o5⟩;have H4:=hid (i6.out _ _ H3.out o5);clear H3 o5 p0 p1 p2 p3 d6
 rcases bn with _ | _
 ·have O:Hid (k=7):=by
   have hl:=f8.out
   have hn:¬NmP G:=fun e=>by have:=i2.out.2 e;cases this
   have hm:=b4.out
   rcases HK.out with e | e | e | e | e
   ·exact absurd hm e.2
   ·exact absurd e.2.2 hl
   ·exact e.1
   ·exact absurd e.2.2.2.1 hn
   ·exact absurd e.2.2.2.1 hn
  obtain⟨z0,z1,z2,z3,z4,z5,z6,z7⟩:=box8 H4.out.2.1;obtain⟨f0,f1,f2,f3,f4,f5,f6,f7⟩:=qa6 H4.out.2.1
  have HF:Hid (∀v0 v1 v2 v3 v4 v5 v6 v7,Below w.heap.size w (set8 W4 T v0 v1 v2 v3 v4 v5 v6 v7)):=fun v0 v1 v2 v3 v4 v5 v6 v7=>jh H4.out.2.2 f9.out
  go_wp2_with fail;refine bodyPost_ret (v:=.tuple #[.agg zC,.int .i64 7]) (by unfold zC sC;simp[results,Tryz.results9,go_sem, *]) rfl ?_
  exact⟨.inl ⟨by rw[O.out];decide,by rw[O.out]⟩,HF.out _ _ _ _ _ _ _ _⟩
 have b0:=hid (i2.out.1 rfl);clear i2;obtain⟨p0,p1,p2,p3⟩:=box4 H4.out.1;go_wp2_with fail;refine(d3.out _ H4.out.2.2).mono ?_;rintro e M ⟨lo,lc,rfl,R,o6⟩;have u6:=zk R;have H5:=hid2 (i6.out _ _ H4.out o6) R;clear H4 o6 p0 p1 p2 p3 d3 R;obtain⟨p0,p1,p2,p3⟩:=box4 H5.out.1.1;have hv:Below M.heap.size M (M.alloc (.cells #[.int .i64 (tn:Int),.int .i64 (m:Int),.int .i64 0,.int .i64 G.e,.slice none 0 0,.slice none 0 0,.slice none 0 0,.slice none 0 0] 31)):=qb _ _
 have H6:Hid (∃B,SX M (M.alloc (.cells #[.int .i64 (tn:Int),.int .i64 (m:Int),.int .i64 0,.int .i64 G.e,.slice none 0 0,.slice none 0 0,.slice none 0 0,.slice none 0 0] 31)) u T M.heap.size ⟨H,C,Y,E⟩ G B (ry0 G 0)):=by
  refine⟨⟨none,0,none,0,none,0,none,0⟩,SB.first ?_ rfl rfl rfl rfl hv (Nat.le_refl _),?_,qf hv H5.out.1.2.1,?_⟩
  ·unfold ry0 sC;rw[F.out,HM.out];exact heap_alloc_new _ _
  ·rw[F.out,a3.out];exact qf hv H5.out.1.1
  ·have:=(Array.getElem?_eq_some_iff.1 H5.out.1.2.1).1;omega
 clear hv
 go_upto_region 9 with fail
 generalize M.alloc (.cells #[.int .i64 (tn:Int),.int .i64 (m:Int),.int .i64 0,.int .i64 G.e,.slice none 0 0,.slice none 0 0,.slice none 0 0,.slice none 0 0] 31)=W6 at H6 ⊢
 obtain⟨q,n4⟩:∃q,Hid (q=M.heap.size):=⟨_,rfl⟩
 rw[<-n4.out]at H6 ⊢;clear p0 p1 p2 p3
 have p0:W6.cell? ⟨u,0,none⟩=some (.slice H tn C):=by
  obtain⟨B,s⟩:=H6.out;rw[qe s.gx,F.out];rfl
 go_wp2_with fail;clear p0
 go_loopg [6] tn (fun kx s6 wr=>∃k:Nat,s6=.int .i64 k/\k<=tn/\tn - k<=kx/\Hid (∃B,SX M wr u T q ⟨H,C,Y,E⟩ G B (ry0 G k)))
 case atStart=>exact⟨0,rfl,Nat.zero_le _,by omega,H6⟩
 case round =>
  clear H6;obtain⟨j,rfl,hj,hg,J⟩:=hrel
  by_cases b6:j<tn
  ·have h9:(j:Int)<(tn:Int):=by omega
   obtain⟨t,ht⟩:∃t,G.ts[j]?=some t:=⟨G.ts[j]'(by rw[F.out];exact b6),List.getElem?_eq_getElem _⟩
   have HT:=hid ht;obtain⟨B,s⟩:=J.out
   have e1:(ry0 G j).nm.length=j:=by unfold ry0;simp;have:=F.out;omega
   have e2:(ry0 G j).lv.length=j:=by unfold ry0;simp;have:=F.out;omega
   have e3:(ry0 G j).az.length=j:=by unfold ry0;simp;have:=F.out;omega
   obtain⟨b,o,q5,d0,d1,d2⟩:=jd (HG.out.tok.below (qd H5.out.1.2.2 s.sp.bel)) ht;simp only at q5;subst q5
   have m2:Hid (∀V,Below M.heap.size M V->V.cell? ⟨b,o+j * 3,none⟩=some (.string t.n)/\V.cell? ⟨b,o+j * 3+1,none⟩=some (.int .i64 t.l)/\V.cell? ⟨b,o+j * 3+2,none⟩=some (.int .i64 t.a)):=fun V Z=>by
    obtain⟨b',o',he,d0,d1,d2⟩:=jd (HG.out.tok.below (qd H5.out.1.2.2 Z)) HT.out
    cases he
    exact⟨d0,d1,d2⟩
   clear d0 d1 d2 ht J;obtain⟨g1,c1,V1,L,x1,f1,s1,-⟩:=(s.step (qo wr)).addNm t.n (by omega);obtain⟨-,-,-,-,y1,-,-,-⟩:=sbox s.sp.box
   have q0:wr.cell? ⟨u,0,none⟩=some (.slice (some ⟨b,o,none⟩) tn C):=by rw[qe s.gx,F.out];rfl
   obtain⟨d0,d1,d2⟩:=m2.out _ s.sp.bel;rw[e1]at L x1 s1 y1;have l3:(Builtin.append_ #[27,27] 27 #[.slice B.na j B.nc,.slice (some ⟨wr.heap.size,0,none⟩) 1 1]).run Tryz.prog (wr.alloc (.cells #[.string t.n] 9)).drew=.ok (.slice (some ⟨g1,0,none⟩) (j+1) c1) V1:=L;have k7:=qp q0 (.cells #[.string t.n] 9);have l0:=qp y1 (.cells #[.string t.n] 9);have h0:=qp d0 (.cells #[.string t.n] 9);have b1:=hid s1;clear s1 s L d1 d2
   obtain⟨u4,s0⟩:∃x,Hid (B.la=x):=⟨_,rfl⟩
   go_upto_region 12 with fail
   go_cut [6] from 36 to 75 (fun s6 wd=>s6=.int .i64 (j:Int)/\Hid (SX M wd u T q ⟨some ⟨b,o,none⟩,C,Y,E⟩ G ⟨some ⟨g1,0,none⟩,c1,B.la,B.lc,B.aa,B.ac,B.ra,B.rc⟩ ⟨(ry0 G j).tk,(ry0 G j).nt,(ry0 G j).st,(ry0 G j).ex,(ry0 G j).nm++[t.n],(ry0 G j).lv,(ry0 G j).az,(ry0 G j).rs⟩))
   case first =>
    go_region_law(refine zb rfl (.tmp 44) (.tmp 51) rfl rfl (by simp[Act.eval]) (by simp[Act.eval]) l3 ?_)
    all_goals (go_wp2_with fail;go_meet;exact⟨rfl,b1⟩)
   case rest =>
    obtain⟨rfl,HS⟩:=hcut
    obtain⟨Q1,s5⟩:∃Q1,Q1=wc:=⟨_,rfl⟩
    subst wc;clear b1 l3 q0 k7 y1 l0 d0 h0 x1 f1;obtain⟨g2,c2,V2,b8,x2,f2,s2,-⟩:=(HS.out.step (qo Q1)).addLv t.l (by show(ry0 G j).lv.length<10000;omega)
    obtain⟨-,-,-,-,-,y1,-,-⟩:=sbox HS.out.sp.box
    have q0:Q1.cell? ⟨u,0,none⟩=some (.slice (some ⟨b,o,none⟩) tn C):=by rw[qe HS.out.gx,F.out];rfl
    obtain⟨-,d0,-⟩:=m2.out _ HS.out.sp.bel;simp only at b8 x2 s2 y1;rw[e2]at b8 x2 s2 y1;have l4:(Builtin.append_ #[28,28] 28 #[.slice B.la j B.lc,.slice (some ⟨Q1.heap.size,0,none⟩) 1 1]).run Tryz.prog (Q1.alloc (.cells #[.int .i64 t.l] 3)).drew=.ok (.slice (some ⟨g2,0,none⟩) (j+1) c2) V2:=b8;have k7:=qp q0 (.cells #[.int .i64 t.l] 3);have l0:=qp y1 (.cells #[.int .i64 t.l] 3);have h0:=qp d0 (.cells #[.int .i64 t.l] 3);have n3:=hid s2;clear s2 b8 HS
    go_upto_region 13 with fail
    go_cut [6] from 36 to 75 (fun s6 wd=>s6=.int .i64 (j:Int)/\Hid (SX M wd u T q ⟨some ⟨b,o,none⟩,C,Y,E⟩ G ⟨some ⟨g1,0,none⟩,c1,some ⟨g2,0,none⟩,c2,B.aa,B.ac,B.ra,B.rc⟩ ⟨(ry0 G j).tk,(ry0 G j).nt,(ry0 G j).st,(ry0 G j).ex,(ry0 G j).nm++[t.n],(ry0 G j).lv++[t.l],(ry0 G j).az,(ry0 G j).rs⟩))
    case first =>
     go_region_law(refine zb rfl (.tmp 55) (.tmp 62) rfl rfl (by simp[Act.eval]) (by simp[Act.eval]) l4 ?_)
     all_goals (go_wp2_with fail;go_meet;exact⟨rfl,n3⟩)
    case rest =>
     obtain⟨rfl,HS⟩:=hcut
     obtain⟨Q2,t7⟩:∃Q2,Q2=wc:=⟨_,rfl⟩
     subst wc;clear n3 l4 q0 k7 y1 l0 d0 h0 x2 f2;obtain⟨g3,c3,V3,j0,x3,f3,s3⟩:=(HS.out.step (qo Q2)).addAz t.a (by show(ry0 G j).az.length<10000;omega)
     obtain⟨-,-,-,-,-,-,y1,-⟩:=sbox HS.out.sp.box
     have q0:Q2.cell? ⟨u,0,none⟩=some (.slice (some ⟨b,o,none⟩) tn C):=by rw[qe HS.out.gx,F.out];rfl
     obtain⟨-,-,d0⟩:=m2.out _ HS.out.sp.bel;simp only at j0 x3 s3 y1;rw[e3]at j0 x3 s3 y1;have p9:(Builtin.append_ #[28,28] 28 #[.slice B.aa j B.ac,.slice (some ⟨Q2.heap.size,0,none⟩) 1 1]).run Tryz.prog (Q2.alloc (.cells #[.int .i64 t.a] 3)).drew=.ok (.slice (some ⟨g3,0,none⟩) (j+1) c3) V3:=j0;have k7:=qp q0 (.cells #[.int .i64 t.a] 3);have l0:=qp y1 (.cells #[.int .i64 t.a] 3);have h0:=qp d0 (.cells #[.int .i64 t.a] 3)
     have r0:Hid (∃B,SX M (V3.setCell ⟨q,6,none⟩ (.slice (some ⟨g3,0,none⟩) (j+1) c3)) u T q ⟨some ⟨b,o,none⟩,C,Y,E⟩ G B (ry0 G (j+1))):=by
      have e:ry0 G (j+1)=⟨(ry0 G j).tk,(ry0 G j).nt,(ry0 G j).st,(ry0 G j).ex,(ry0 G j).nm++[t.n],(ry0 G j).lv++[t.l],(ry0 G j).az++[t.a],(ry0 G j).rs⟩:=by
       unfold ry0;rw[zw HT.out];simp
      rw[<-e]at s3;exact⟨_,s3⟩
     clear s3 j0 HS
     go_upto_region 14 with fail
     go_region_law(refine zb rfl (.tmp 66) (.tmp 73) rfl rfl (by simp[Act.eval]) (by simp[Act.eval]) p9 ?_)
     all_goals
      go_wp2_with fail;go_roundg (tn - (j+1))
      case measure=>omega
      case rel=>exact⟨j+1,by simp,by omega,Nat.le_refl _,r0⟩
  ·have h9:¬(j:Int)<(tn:Int):=by omega
   obtain⟨W7,t8⟩:∃W7,W7=wr:=⟨_,rfl⟩
   subst wr
   obtain⟨⟨b,o,rfl⟩,p7⟩:(∃b o,lo=some ⟨b,o,none⟩)/\0<m:=by
    obtain⟨x,hx⟩:∃x,x∈lfs G.rs:=⟨_,b0.out.st⟩
    obtain⟨i,hi⟩:=List.getElem?_of_mem hx;obtain⟨b,o,he,-⟩:=jy H5.out.2 hi;have:=(List.getElem?_eq_some_iff.1 hi).1;rw[HM.out]at this;exact⟨⟨b,o,he⟩,by omega⟩
   obtain⟨B,s⟩:=J.out
   have ej:j=tn:=by omega
   subst ej
   have e1:(ry0 G j).nm.length=j:=by unfold ry0;simp;have:=F.out;omega
   obtain⟨g1,c1,V1,ao,c2,V2,L,b8,x1,f1,s1⟩:=s.two ⟨#[]⟩ (lfs G.rs) b o m lc j e1 HM.out H5.out.2 p7 (by omega);obtain⟨-,-,-,-,y1,-,-,-⟩:=sbox s.sp.box;rw[e1]at y1
   have q0:W7.cell? ⟨u,0,none⟩=some (.slice H j C):=by rw[qe s.gx,F.out];rfl
   have b1:Hid (∃B,SY M (V2.setCell ⟨q,4,none⟩ (.slice ao (j+1+m) c2)) u T q ⟨H,C,Y,E⟩ G B (sy0 G) []):=by
    have e:sy0 G=⟨(ry0 G j).tk,(ry0 G j).nt,(ry0 G j).st,(ry0 G j).ex,(ry0 G j).nm++⟨#[]⟩ :: lfs G.rs,(ry0 G j).lv,(ry0 G j).az,(ry0 G j).rs⟩:=by
     unfold ry0 sy0 nmG tkG;rw[show G.ts.take j=G.ts from List.take_of_length_le (by rw[F.out];exact Nat.le_refl _)]
     rfl
    rw[<-e]at s1;exact⟨_,s1⟩
   clear s1 s J b6 hg hj
   go_upto_region 16 with (first | (at_builtin;refine Lib.wpList_append_run _ rfl _ _ _ _ rfl _ _ rfl rfl _ _ L ?_) | (at_builtin;refine Lib.wpList_append_run _ rfl _ _ _ _ rfl _ _ rfl rfl _ _ b8 ?_))
   generalize V2.setCell ⟨q,4,none⟩ (.slice ao (j+1+m) c2)=Q at b1 ⊢;clear L b8 x1 f1 y1 q0
   have p1:Q.cell? ⟨u,1,none⟩=some (.string G.s):=by
    obtain⟨B,s⟩:=b1.out;rw[qe s.gx];rfl
   have l7:Hid (Below M.heap.size M Q):=by
    obtain⟨B,s⟩:=b1.out;exact s.sp.bel
   obtain⟨bs,i8⟩:∃bs,(G.s.toList == [])=bs:=⟨_,rfl⟩
   have l8:=hid i8
   go_upto_if 86 with fail
   clear i8 p1
   go_cut [7] (fun s7 wd=>s7=.string (kq G)/\Hid (wd=Q))
   case first =>
    cases bs
    ·have HE:Hid (kq G=G.s):=by
      show _=_;unfold kq;rw[if_neg (fun e=>by have:=(zy G.s).2 e;rw[l8.out]at this;cases this)]
     go_wp2_with fail;go_meet;exact⟨by rw[HE.out],(rfl:Q=Q)⟩
    ·obtain⟨x,hx⟩:∃x,(lfs G.rs)[0]?=some x:=⟨(lfs G.rs)[0]'(by rw[HM.out];exact p7),List.getElem?_eq_getElem _⟩
     have HE:Hid (kq G=x):=by
      show _=_;unfold kq;rw[if_pos (show G.s=e0 from(zy G.s).1 l8.out)];exact qrq b0.out.ne hx
     obtain⟨b',o',he,d0⟩:=jy (H5.out.2.below l7.out) hx
     cases he
     have h0:Q.cell? ⟨b,o,none⟩=some (.string x):=d0;clear hx d0;go_wp2_with fail;go_meet;exact⟨by rw[HE.out],(rfl:Q=Q)⟩
   case rest =>
    obtain⟨rfl,q6⟩:=hcut;obtain rfl:wc=Q:=q6.out;clear q6 l8
    obtain⟨xi,m4⟩:∃xi,Hid (ix (lfs G.rs) (kq G)=xi):=⟨_,rfl⟩
    have v9:xi<m:=by have:=qe1 b0.out.st;rw[m4.out,HM.out]at this;exact this
    obtain⟨st,b2⟩:∃st,Hid (stG G=st):=⟨_,rfl⟩
    have r1:Hid (((st:Nat):Int)=IntKind.i64.wrap (IntKind.i64.wrap ((j:Int)+1)+(xi:Int))):=by
     show _=_
     have e1:st=j+1+xi:=by
      rw[<-b2.out];unfold stG;rw[m4.out,F.out]
     have e2:IntKind.i64.wrap ((j:Int)+1)=(j:Int)+1:=by rw[IntKind.wrap_i64];omega
     have e3:IntKind.i64.wrap ((j:Int)+1+(xi:Int))=(j:Int)+1+(xi:Int):=by rw[IntKind.wrap_i64];omega
     rw[e2,e3,e1];simp
    have m8:Hid (∀V:World,Row V 1 (some ⟨b,o,none⟩) m lc (strC (lfs G.rs))->Calls Tryz.prog 24 #[.slice (some ⟨b,o,none⟩) m lc,.string (kq G)] V fun e w'=>e=.returned (.int .i64 (xi:Int))/\w'=V):=fun V Z=>by
     have:=qa4 (lfs G.rs) (some ⟨b,o,none⟩) lc (kq G) V (by rw[HM.out];exact Z) (by rw[HM.out];omega)
     rw[HM.out,qc7 b0.out.st,m4.out]at this;exact this
    obtain⟨W9,t9⟩:∃W9,W9=wc:=⟨_,rfl⟩
    subst wc
    go_upto_region 19 with fail
    go_cut [7] (fun s7 wd=>Hid (∃B,SY M wd u T q ⟨H,C,Y,E⟩ G B (ry1 G) []))
    case first =>
     obtain⟨B,s⟩:=b1.out
     have z0:W9.cell? ⟨q,0,none⟩=some (.int .i64 (j:Int)):=by
      have:=(sbox s.sp.box).1;rw[this,<-F.out];rfl
     have z2:W9.cell? ⟨q,2,none⟩=some (.int .i64 0):=(sbox s.sp.box).2.2.1;have g2:=(qa6 s.sp.box).2.2.1
     have HF:Hid (∃B,SY M (W9.setCell ⟨q,2,none⟩ (.int .i64 (IntKind.i64.wrap (IntKind.i64.wrap ((j:Int)+1)+(xi:Int))))).drew u T q ⟨H,C,Y,E⟩ G B (ry1 G) []):=by
      rw[<-r1.out,<-b2.out];exact⟨B,(s.putSt (stG G)).step (qo _)⟩
     clear s b1
     go_region_with(first | (go_at_call 24;refine(m8.out _ (H5.out.2.below (qd l7.out (qo _)))).mono ?_;rintro e V7 ⟨rfl,rfl⟩))
     all_goals
      go_wp2_with fail;go_meet;exact HF
    case rest =>
     obtain⟨a2,r8⟩:∃a2,a2=wc:=⟨_,rfl⟩
     subst wc;clear b1 m8 l7;obtain⟨B,s⟩:=hcut.out;have hv:Below a2.heap.size a2 (a2.alloc (.cells #[.int .i64 (st:Int)] 3)):=qb _ _
     have l5:(a2.alloc (.cells #[.int .i64 (st:Int)] 3)).ownsRow M.heap.size 3 1 (.slice (some ⟨a2.heap.size,0,none⟩) 1 1) 1 (natC [stG G]):=by
      have:=yh a2 M.heap.size 3 1 1 [.int .i64 (st:Int)] s.sp.bel.size rfl (by omega);unfold natC;rw[b2.out];exact this
     obtain⟨g1,c1,V1,L,x7,f7,s1⟩:=(s.step hv).addRu (⟨-1,[stG G],0,0⟩,some ⟨a2.heap.size,0,none⟩,1) 0 rfl l5 (by omega);rw[qz]at L;have z7:a2.cell? ⟨q,7,none⟩=some (.slice B.ra 0 B.rc):=(sbox s.sp.box).2.2.2.2.2.2.2
     have z2:a2.cell? ⟨q,2,none⟩=some (.int .i64 (st:Int)):=by
      rw[<-b2.out];exact(sbox s.sp.box).2.2.1
     have HS:Hid (∃B qs,SY M (V1.setCell ⟨q,7,none⟩ (.slice (some ⟨g1,0,none⟩) (0+1) c1)) u T q ⟨H,C,Y,E⟩ G B (ry2 G 0) qs):=⟨_,_,s1⟩
     clear s s1 l5 hv hcut
     go_upto_region 21 with (at_builtin;refine Lib.wpList_append_run _ rfl _ _ _ _ rfl _ _ rfl rfl _ _ L ?_)
     generalize V1.setCell ⟨q,7,none⟩ (.slice (some ⟨g1,0,none⟩) (0+1) c1)=r2 at HS ⊢;clear L x7 f7 z7 z2
     have p3:r2.cell? ⟨u,3,none⟩=some (.slice Y rn E):=by
      obtain⟨B,qs,s⟩:=HS.out;rw[qe s.gx,a3.out];rfl
     go_wp2_with fail;clear p3
     go_loopg [8] rn (fun kx s8 wr=>∃i:Nat,s8=.int .i64 i/\i<=rn/\rn - i<=kx/\Hid (∃B qs,SY M wr u T q ⟨H,C,Y,E⟩ G B (ry2 G i) qs))
     case atStart=>exact⟨0,rfl,Nat.zero_le _,by omega,HS⟩
     case round =>
      clear HS;obtain⟨i,rfl,hi,hg,J⟩:=hrel;obtain⟨B,qs,s⟩:=J.out;obtain⟨na,nc,la,D,aa,ac,z,A⟩:=B
      obtain⟨nn,q8⟩:∃nn,Hid ((nmG G).length=nn):=⟨_,rfl⟩
      have a4:Hid (sC ⟨na,nc,la,D,aa,ac,z,A⟩ (ry2 G i)=#[.int .i64 (j:Int),.int .i64 (m:Int),.int .i64 (st:Int),.int .i64 G.e,.slice na nn nc,.slice la j D,.slice aa j ac,.slice z (i+1) A]):=by
       show _=_;unfold sC ry2;rw[F.out,HM.out,b2.out,q8.out];simp only[List.length_map,List.length_cons,List.length_take,F.out,a3.out];rw[Nat.min_eq_left hi]
      have p3:wr.cell? ⟨u,3,none⟩=some (.slice Y rn E):=by rw[qe s.gx,a3.out];rfl
      by_cases p6:i<rn
      ·have m5:(i:Int)<(rn:Int):=by omega
       obtain⟨r,hr⟩:∃r,G.rs[i]?=some r:=⟨G.rs[i]'(by rw[a3.out];exact p6),List.getElem?_eq_getElem _⟩
       obtain⟨N,P,ya,yc,q4,v0,v1,v2,R⟩:=(HG.out.rul.below H5.out.1.2.2).at hr;simp only at q4;subst q4
       have r3:N≠q:=by have:=World.block_lt_of_cell? _ _ v0;have:=n4.out;simp only at *;omega
       have HR:=hid hr
       have m3:Hid (∀V,Below M.heap.size M V->V.cell? ⟨N,P+i * 3,none⟩=some (.string r.l)/\V.cell? ⟨N,P+i * 3+1,none⟩=some (.slice ya r.r.length yc)/\V.cell? ⟨N,P+i * 3+2,none⟩=some (.string r.p)/\Row V 1 ya r.r.length yc (strC r.r)):=fun V Z=>⟨qt Z v0,qt Z v1,qt Z v2,R.below Z⟩
       clear v0 v1 v2 R;obtain⟨d0,d1,d2,R⟩:=m3.out wr s.sp.bel;obtain⟨p0,p1,p2,-⟩:=box4 s.gx;simp only at p0;rw[F.out]at p0;have d8:=s.sp.box;rw[a4.out]at d8;obtain⟨z0,z1,z2,z3,z4,z5,z6,z7⟩:=box8 d8
       obtain⟨rl,m1⟩:∃rl,Hid (r.r.length=rl):=⟨_,rfl⟩
       rw[m1.out]at d1 R m3
       obtain⟨ql,n0⟩:∃ql,Hid ((ruG G r).l=ql):=⟨_,rfl⟩
       obtain⟨qn,n1⟩:∃qn,Hid ((ruG G r).r.length=qn):=⟨_,rfl⟩
       obtain⟨qv,n2⟩:∃qv,Hid ((ruG G r).lv=qv):=⟨_,rfl⟩
       obtain⟨qa,m9⟩:∃qa,Hid ((ruG G r).a=qa):=⟨_,rfl⟩
       have d7:Hid (Calls Tryz.prog 25 #[.agg #[.slice H j C,.string G.s,.int .i64 G.e,.slice (some ⟨N,P,none⟩) rn E],.agg #[.int .i64 (j:Int),.int .i64 (m:Int),.int .i64 (st:Int),.int .i64 G.e,.slice na nn nc,.slice la j D,.slice aa j ac,.slice z (i+1) A],.agg #[.string r.l,.slice ya rl yc,.string r.p]] wr.drew fun e w'=>∃xa xc,e=.returned (.agg #[.int .i64 ql,.slice xa qn xc,.int .i64 qv,.int .i64 qa])/\(w'.ownsRow M.heap.size 3 1 (.slice xa (ruG G r).r.length xc) (ruG G r).r.length (natC (ruG G r).r)/\SY M w' u T q ⟨H,C,some ⟨N,P,none⟩,E⟩ G ⟨na,nc,la,D,aa,ac,z,A⟩ (ry2 G i) qs)):=by
        have s9:=s.step (qo wr);have r6:=s9.sp.isSp.nm;have:=ql8 G ⟨H,C,some ⟨N,P,none⟩,E⟩ (ry2 G i) ⟨na,nc,la,D,aa,ac,z,A⟩ wr.drew (HG.out.below (qd H5.out.1.2.2 s9.sp.bel)) r6 rfl rfl b4.out b0.out r (List.mem_of_getElem? hr) ya yc (by rw[m1.out];exact R.below (qo _))
        unfold gv at this;simp only at this;rw[F.out,a3.out,a4.out,m1.out]at this;refine this.mono ?_;rintro e w' ⟨xa,xc,rfl,ho,hb⟩;exact⟨xa,xc,by rw[n0.out,n1.out,n2.out,m9.out],zc ho s9.sp.bel.size,s9.step hb⟩
       have l6:Hid (∀(xa:Option Addr) (xc:Nat) (V:World),(V.ownsRow M.heap.size 3 1 (.slice xa (ruG G r).r.length xc) (ruG G r).r.length (natC (ruG G r).r)/\SY M V u T q ⟨H,C,some ⟨N,P,none⟩,E⟩ G ⟨na,nc,la,D,aa,ac,z,A⟩ (ry2 G i) qs)->∃g c V2,(Builtin.append_ #[29,29] 29 #[.slice z (i+1) A,.slice (some ⟨V.heap.size,0,none⟩) 1 1]).run Tryz.prog (V.alloc (.cells #[.int .i64 ql,.slice xa qn xc,.int .i64 qv,.int .i64 qa] 56))=.ok (.slice (some ⟨g,0,none⟩) (i+1+1) c) V2/\V.cell? ⟨q,7,none⟩=some (.slice z (i+1) A)/\V2.cell? ⟨q,7,none⟩=some (.slice z (i+1) A)/\V2.frozen? ⟨q,7,none⟩=false/\Hid (∃B qs,SY M (V2.setCell ⟨q,7,none⟩ (.slice (some ⟨g,0,none⟩) (i+1+1) c)) u T q ⟨H,C,some ⟨N,P,none⟩,E⟩ G B (ry2 G (i+1)) qs)):=fun xa xc V Z=>by
        obtain⟨ho,sV⟩:=Z
        have en:(ry2 G i).rs.length=i+1:=by
         unfold ry2;simp only[List.length_map,List.length_cons,List.length_take,a3.out];rw[Nat.min_eq_left hi]
        obtain⟨g,c,V2,L,x7,f7,s1⟩:=sV.addRu (ruG G r,xa,xc) (i+1) en ho (by omega);simp only at L x7;rw[n0.out,n1.out,n2.out,m9.out]at L;have d8:=sV.sp.box;rw[a4.out]at d8
        have e:ry2 G (i+1)=⟨(ry2 G i).tk,(ry2 G i).nt,(ry2 G i).st,(ry2 G i).ex,(ry2 G i).nm,(ry2 G i).lv,(ry2 G i).az,(ry2 G i).rs++[ruG G r]⟩:=by
         unfold ry2;rw[zw HR.out];simp
        have p5:∃B qs,SY M (V2.setCell ⟨q,7,none⟩ (.slice (some ⟨g,0,none⟩) (i+1+1) c)) u T q ⟨H,C,some ⟨N,P,none⟩,E⟩ G B (ry2 G (i+1)) qs:=by
         rw[e];exact⟨_,_,s1⟩
        exact⟨g,c,V2,L,(box8 d8).2.2.2.2.2.2.2,x7,f7,p5⟩
       have i7:Hid (∀(V:World) (h3:SHd) (S3:Sp) (q3:List (SR × Option Addr × Nat)),SY M V u T q ⟨H,C,some ⟨N,P,none⟩,E⟩ G h3 S3 q3->(V.cell? ⟨u,0,none⟩=some (.slice H j C)/\V.cell? ⟨u,1,none⟩=some (.string G.s)/\V.cell? ⟨u,2,none⟩=some (.int .i64 G.e)/\V.cell? ⟨u,3,none⟩=some (.slice (some ⟨N,P,none⟩) rn E)/\V.cell? ⟨N,P+i * 3,none⟩=some (.string r.l)/\V.cell? ⟨N,P+i * 3+1,none⟩=some (.slice ya rl yc)/\V.cell? ⟨N,P+i * 3+2,none⟩=some (.string r.p))):=fun V h3 S3 q3 sV=>by
        obtain⟨u0,u1,u2,u3⟩:=box4 sV.gx;simp only at u0 u3;rw[F.out]at u0;rw[a3.out]at u3;obtain⟨v0,v1,v2,-⟩:=m3.out V sV.sp.bel;exact⟨u0,u1,u2,u3,v0,v1,v2⟩
       have i5:Hid (∀(V:World) (v:Value) (h3:SHd) (S3:Sp) (q3:List (SR × Option Addr × Nat)),SY M (V.setCell ⟨q,7,none⟩ v) u T q ⟨H,C,some ⟨N,P,none⟩,E⟩ G h3 S3 q3->(V.cell? ⟨u,0,none⟩=some (.slice H j C)/\V.cell? ⟨u,1,none⟩=some (.string G.s)/\V.cell? ⟨u,2,none⟩=some (.int .i64 G.e)/\V.cell? ⟨u,3,none⟩=some (.slice (some ⟨N,P,none⟩) rn E)/\V.cell? ⟨N,P+i * 3,none⟩=some (.string r.l)/\V.cell? ⟨N,P+i * 3+1,none⟩=some (.slice ya rl yc)/\V.cell? ⟨N,P+i * 3+2,none⟩=some (.string r.p))/\((V.setCell ⟨q,7,none⟩ v).cell? ⟨u,0,none⟩=some (.slice H j C)/\(V.setCell ⟨q,7,none⟩ v).cell? ⟨u,1,none⟩=some (.string G.s)/\(V.setCell ⟨q,7,none⟩ v).cell? ⟨u,2,none⟩=some (.int .i64 G.e)/\(V.setCell ⟨q,7,none⟩ v).cell? ⟨u,3,none⟩=some (.slice (some ⟨N,P,none⟩) rn E)/\(V.setCell ⟨q,7,none⟩ v).cell? ⟨N,P+i * 3,none⟩=some (.string r.l)/\(V.setCell ⟨q,7,none⟩ v).cell? ⟨N,P+i * 3+1,none⟩=some (.slice ya rl yc)/\(V.setCell ⟨q,7,none⟩ v).cell? ⟨N,P+i * 3+2,none⟩=some (.string r.p))):=fun V v h3 S3 q3 sV=>by
        have hs:=i7.out _ _ _ _ sV
        have r4:q≠u:=fun e=>qu ⟨_,sV.gx⟩ ⟨_,sV.sp.box⟩ (by decide) e.symm
        have i8:q≠N:=fun e=>r3 e.symm
        refine⟨?_,hs⟩;obtain⟨k0,k1,k2,k3,k4,k5,k6⟩:=hs;rw[World.cell?_setCell_far _ _ _ _ r4]at k0 k1 k2 k3;rw[World.cell?_setCell_far _ _ _ _ i8]at k4 k5 k6;exact⟨k0,k1,k2,k3,k4,k5,k6⟩
       clear s J hr R d8 a4
       go_upto_region 24 with fail
       refine wp_region_held_drew (S:=(fun w'=>w'.cell? ⟨u,0,none⟩=some (.slice H j C)/\w'.cell? ⟨u,1,none⟩=some (.string G.s)/\w'.cell? ⟨u,2,none⟩=some (.int .i64 G.e)/\w'.cell? ⟨u,3,none⟩=some (.slice (some ⟨N,P,none⟩) rn E)/\w'.cell? ⟨N,P+i * 3,none⟩=some (.string r.l)/\w'.cell? ⟨N,P+i * 3+1,none⟩=some (.slice ya rl yc)/\w'.cell? ⟨N,P+i * 3+2,none⟩=some (.string r.p))) (by kernel_rfl) ⟨p0,p1,p2,p3,d0,d1,d2⟩ (fun d=>?_);refine wpAnyH_take (i:=0) (v:=(.pointer (some ⟨q,7,none⟩))) rfl (by kernel_rfl) (by kernel_rfl) (by kernel_rfl) (fun _ _ _ h=>h) (Or.inl ⟨by rfl,fun w9 I=>?_⟩) d ?_
       ·obtain⟨a5,a0,a1,a6,a7,a8,a9⟩:=I
        go_simp
        try (with_reducible rfl)
       simp only[Act.put];refine wpAnyH_take (i:=2) (v:=(.agg #[.slice H j C,.string G.s,.int .i64 G.e,.slice (some ⟨N,P,none⟩) rn E])) rfl (by kernel_rfl) (by kernel_rfl) (by kernel_rfl) (fun _ _ _ h=>h) (Or.inl ⟨by rfl,fun w9 I=>?_⟩) d ?_
       ·obtain⟨a5,a0,a1,a6,a7,a8,a9⟩:=I
        go_simp
        try (with_reducible rfl)
       simp only[Act.put];refine wpAnyH_take (i:=4) (v:=(.pointer (some ⟨u,3,none⟩))) rfl (by kernel_rfl) (by kernel_rfl) (by kernel_rfl) (fun _ _ _ h=>h) (Or.inl ⟨by rfl,fun w9 I=>?_⟩) d ?_
       ·obtain⟨a5,a0,a1,a6,a7,a8,a9⟩:=I
        go_simp
        try (with_reducible rfl)
       simp only[Act.put];refine wpAnyH_take (i:=5) (v:=(.slice (some ⟨N,P,none⟩) rn E)) rfl (by kernel_rfl) (by kernel_rfl) (by kernel_rfl) (fun _ _ _ h=>h) (Or.inl ⟨by rfl,fun w9 I=>?_⟩) d ?_
       ·obtain⟨a5,a0,a1,a6,a7,a8,a9⟩:=I
        go_simp
        try (with_reducible rfl)
       simp only[Act.put];refine wpAnyH_take (i:=6) (v:=(.int .i64 (i:Int))) rfl (by kernel_rfl) (by kernel_rfl) (by kernel_rfl) (fun _ _ _ h=>h) (Or.inl ⟨by rfl,fun w9 I=>?_⟩) d ?_
       ·obtain⟨a5,a0,a1,a6,a7,a8,a9⟩:=I
        go_simp
        try (with_reducible rfl)
       simp only[Act.put];refine wpAnyH_take (i:=7) (v:=(.pointer (some ⟨N,P+i * 3,none⟩))) rfl (by kernel_rfl) (by kernel_rfl) (by kernel_rfl) (fun _ _ _ h=>h) (Or.inl ⟨by rfl,fun w9 I=>?_⟩) d ?_
       ·obtain⟨a5,a0,a1,a6,a7,a8,a9⟩:=I
        go_simp
        try (with_reducible rfl)
       simp only[Act.put];refine wpAnyH_take (i:=8) (v:=(.agg #[.string r.l,.slice ya rl yc,.string r.p])) rfl (by kernel_rfl) (by kernel_rfl) (by kernel_rfl) (fun _ _ _ h=>h) (Or.inl ⟨by rfl,fun w9 I=>?_⟩) d ?_
       ·obtain⟨a5,a0,a1,a6,a7,a8,a9⟩:=I
        go_simp
        try (with_reducible rfl)
       simp only[Act.put];refine wpAnyH_ready (rs:=[1,3]) (by kernel_rfl) (by simp) ?_;refine AllReadyH.cons rfl (fun K f=>?_) (AllReadyH.cons rfl (fun K f=>?_) AllReadyH.nil)
       ·skip
        go_simp
        refine f.out _ _ ⟨p0,p1,p2,p3,d0,d1,d2⟩ (fun d=>?_);clear f K;refine wpAnyH_ready (rs:=[3]) (by kernel_rfl) (by simp) ?_;refine AllReadyH.cons rfl (fun K f=>?_) AllReadyH.nil
        go_simp
        refine f.out _ _ ⟨p0,p1,p2,p3,d0,d1,d2⟩ (fun d=>?_);clear f K;refine wpAnyH_ready (rs:=[9]) (by kernel_rfl) (by simp) ?_;refine AllReadyH.cons rfl (fun K f=>?_) AllReadyH.nil;refine j9 rfl 25 #[.agg #[.slice H j C,.string G.s,.int .i64 G.e,.slice (some ⟨N,P,none⟩) rn E],.agg #[.int .i64 (j:Int),.int .i64 (m:Int),.int .i64 (st:Int),.int .i64 G.e,.slice na nn nc,.slice la j D,.slice aa j ac,.slice z (i+1) A],.agg #[.string r.l,.slice ya rl yc,.string r.p]] (fun xa xc=>.agg #[.int .i64 ql,.slice xa qn xc,.int .i64 qv,.int .i64 qa]) _ (by simp[Act.eval,go_sem]) d7.out (fun xa xc V Z=>?_);obtain⟨g,c,V2,L,y7,x7,f7,HN⟩:=l6.out xa xc V Z;have h8:=i7.out V _ _ _ Z.2;obtain⟨t0,t1,t2,t3,t4,t5,t6⟩:=h8;refine f.out _ _ ⟨t0,t1,t2,t3,t4,t5,t6⟩ (fun d=>?_);clear f K Z;simp only[Act.put];refine wpAnyH_ready (rs:=[10]) (by kernel_rfl) (by simp) ?_;refine AllReadyH.cons rfl (fun K f=>?_) AllReadyH.nil;have m7:=qp y7 (.cells #[.int .i64 ql,.slice xa qn xc,.int .i64 qv,.int .i64 qa] 56)
        go_simp
        refine f.out _ _ ⟨qp t0 _,qp t1 _,qp t2 _,qp t3 _,qp t4 _,qp t5 _,qp t6 _⟩ (fun d=>?_);clear f K;refine wpAnyH_ready (rs:=[11]) (by kernel_rfl) (by simp) ?_;refine AllReadyH.cons rfl (fun K f=>?_) AllReadyH.nil;obtain⟨hq,qq,sN⟩:=HN.out;have X:=i5.out _ _ _ _ _ sN;clear sN;refine zb rfl (.tmp 115) (.tmp 124) rfl rfl (by simp[Act.eval]) (by simp[Act.eval]) L (f.out _ _ X.1 (fun d=>?_));simp only[Act.put];clear f K;refine wpAnyH_take (i:=12) (v:=(.pointer (some ⟨q,7,none⟩))) rfl (by kernel_rfl) (by kernel_rfl) (by kernel_rfl) (fun _ _ _ h=>h) (Or.inl ⟨by rfl,fun w9 I=>?_⟩) d ?_
        ·obtain⟨a5,a0,a1,a6,a7,a8,a9⟩:=I
         go_simp
         try (with_reducible rfl)
        simp only[Act.put];refine wpAnyH_ready (rs:=[13]) (by kernel_rfl) (by simp) ?_;refine AllReadyH.cons rfl (fun K f=>?_) AllReadyH.nil
        go_simp
        refine f.out _ _ X.2 (fun d=>?_);clear f K X;refine wpAnyH_done (by kernel_rfl) ?_ _;go_wp2_with fail;go_roundg (rn - (i+1))
        case measure=>omega
        case rel=>exact⟨i+1,by simp,by omega,Nat.le_refl _,HN⟩
       ·skip
        go_simp
        refine f.out _ _ ⟨p0,p1,p2,p3,d0,d1,d2⟩ (fun d=>?_);clear f K;refine wpAnyH_ready (rs:=[1,9]) (by kernel_rfl) (by simp) ?_;refine AllReadyH.cons rfl (fun K f=>?_) (AllReadyH.cons rfl (fun K f=>?_) AllReadyH.nil)
        ·skip
         go_simp
         refine f.out _ _ ⟨p0,p1,p2,p3,d0,d1,d2⟩ (fun d=>?_);clear f K;refine wpAnyH_ready (rs:=[9]) (by kernel_rfl) (by simp) ?_;refine AllReadyH.cons rfl (fun K f=>?_) AllReadyH.nil;refine j9 rfl 25 #[.agg #[.slice H j C,.string G.s,.int .i64 G.e,.slice (some ⟨N,P,none⟩) rn E],.agg #[.int .i64 (j:Int),.int .i64 (m:Int),.int .i64 (st:Int),.int .i64 G.e,.slice na nn nc,.slice la j D,.slice aa j ac,.slice z (i+1) A],.agg #[.string r.l,.slice ya rl yc,.string r.p]] (fun xa xc=>.agg #[.int .i64 ql,.slice xa qn xc,.int .i64 qv,.int .i64 qa]) _ (by simp[Act.eval,go_sem]) d7.out (fun xa xc V Z=>?_);obtain⟨g,c,V2,L,y7,x7,f7,HN⟩:=l6.out xa xc V Z;have h8:=i7.out V _ _ _ Z.2;obtain⟨t0,t1,t2,t3,t4,t5,t6⟩:=h8;refine f.out _ _ ⟨t0,t1,t2,t3,t4,t5,t6⟩ (fun d=>?_);clear f K Z;simp only[Act.put];refine wpAnyH_ready (rs:=[10]) (by kernel_rfl) (by simp) ?_;refine AllReadyH.cons rfl (fun K f=>?_) AllReadyH.nil;have m7:=qp y7 (.cells #[.int .i64 ql,.slice xa qn xc,.int .i64 qv,.int .i64 qa] 56)
         go_simp
         refine f.out _ _ ⟨qp t0 _,qp t1 _,qp t2 _,qp t3 _,qp t4 _,qp t5 _,qp t6 _⟩ (fun d=>?_);clear f K;refine wpAnyH_ready (rs:=[11]) (by kernel_rfl) (by simp) ?_;refine AllReadyH.cons rfl (fun K f=>?_) AllReadyH.nil;obtain⟨hq,qq,sN⟩:=HN.out;have X:=i5.out _ _ _ _ _ sN;clear sN;refine zb rfl (.tmp 115) (.tmp 124) rfl rfl (by simp[Act.eval]) (by simp[Act.eval]) L (f.out _ _ X.1 (fun d=>?_));simp only[Act.put];clear f K;refine wpAnyH_take (i:=12) (v:=(.pointer (some ⟨q,7,none⟩))) rfl (by kernel_rfl) (by kernel_rfl) (by kernel_rfl) (fun _ _ _ h=>h) (Or.inl ⟨by rfl,fun w9 I=>?_⟩) d ?_
         ·obtain⟨a5,a0,a1,a6,a7,a8,a9⟩:=I
          go_simp
          try (with_reducible rfl)
         simp only[Act.put];refine wpAnyH_ready (rs:=[13]) (by kernel_rfl) (by simp) ?_;refine AllReadyH.cons rfl (fun K f=>?_) AllReadyH.nil
         go_simp
         refine f.out _ _ X.2 (fun d=>?_);clear f K X;refine wpAnyH_done (by kernel_rfl) ?_ _;go_wp2_with fail;go_roundg (rn - (i+1))
         case measure=>omega
         case rel=>exact⟨i+1,by simp,by omega,Nat.le_refl _,HN⟩
        ·skip
         refine j9 rfl 25 #[.agg #[.slice H j C,.string G.s,.int .i64 G.e,.slice (some ⟨N,P,none⟩) rn E],.agg #[.int .i64 (j:Int),.int .i64 (m:Int),.int .i64 (st:Int),.int .i64 G.e,.slice na nn nc,.slice la j D,.slice aa j ac,.slice z (i+1) A],.agg #[.string r.l,.slice ya rl yc,.string r.p]] (fun xa xc=>.agg #[.int .i64 ql,.slice xa qn xc,.int .i64 qv,.int .i64 qa]) _ (by simp[Act.eval,go_sem]) d7.out (fun xa xc V Z=>?_);obtain⟨g,c,V2,L,y7,x7,f7,HN⟩:=l6.out xa xc V Z;have h8:=i7.out V _ _ _ Z.2;obtain⟨t0,t1,t2,t3,t4,t5,t6⟩:=h8;refine f.out _ _ ⟨t0,t1,t2,t3,t4,t5,t6⟩ (fun d=>?_);clear f K Z;simp only[Act.put];refine wpAnyH_ready (rs:=[1,10]) (by kernel_rfl) (by simp) ?_;refine AllReadyH.cons rfl (fun K f=>?_) (AllReadyH.cons rfl (fun K f=>?_) AllReadyH.nil)
         ·skip
          go_simp
          refine f.out _ _ ⟨t0,t1,t2,t3,t4,t5,t6⟩ (fun d=>?_);clear f K;refine wpAnyH_ready (rs:=[10]) (by kernel_rfl) (by simp) ?_;refine AllReadyH.cons rfl (fun K f=>?_) AllReadyH.nil;have m7:=qp y7 (.cells #[.int .i64 ql,.slice xa qn xc,.int .i64 qv,.int .i64 qa] 56)
          go_simp
          refine f.out _ _ ⟨qp t0 _,qp t1 _,qp t2 _,qp t3 _,qp t4 _,qp t5 _,qp t6 _⟩ (fun d=>?_);clear f K;refine wpAnyH_ready (rs:=[11]) (by kernel_rfl) (by simp) ?_;refine AllReadyH.cons rfl (fun K f=>?_) AllReadyH.nil;obtain⟨hq,qq,sN⟩:=HN.out;have X:=i5.out _ _ _ _ _ sN;clear sN;refine zb rfl (.tmp 115) (.tmp 124) rfl rfl (by simp[Act.eval]) (by simp[Act.eval]) L (f.out _ _ X.1 (fun d=>?_));simp only[Act.put];clear f K;refine wpAnyH_take (i:=12) (v:=(.pointer (some ⟨q,7,none⟩))) rfl (by kernel_rfl) (by kernel_rfl) (by kernel_rfl) (fun _ _ _ h=>h) (Or.inl ⟨by rfl,fun w9 I=>?_⟩) d ?_
          ·obtain⟨a5,a0,a1,a6,a7,a8,a9⟩:=I
           go_simp
           try (with_reducible rfl)
          simp only[Act.put];refine wpAnyH_ready (rs:=[13]) (by kernel_rfl) (by simp) ?_;refine AllReadyH.cons rfl (fun K f=>?_) AllReadyH.nil
          go_simp
          refine f.out _ _ X.2 (fun d=>?_);clear f K X;refine wpAnyH_done (by kernel_rfl) ?_ _;go_wp2_with fail;go_roundg (rn - (i+1))
          case measure=>omega
          case rel=>exact⟨i+1,by simp,by omega,Nat.le_refl _,HN⟩
         ·skip
          have m7:=qp y7 (.cells #[.int .i64 ql,.slice xa qn xc,.int .i64 qv,.int .i64 qa] 56)
          go_simp
          refine f.out _ _ ⟨qp t0 _,qp t1 _,qp t2 _,qp t3 _,qp t4 _,qp t5 _,qp t6 _⟩ (fun d=>?_);clear f K;refine wpAnyH_ready (rs:=[1]) (by kernel_rfl) (by simp) ?_;refine AllReadyH.cons rfl (fun K f=>?_) AllReadyH.nil
          go_simp
          refine f.out _ _ ⟨qp t0 _,qp t1 _,qp t2 _,qp t3 _,qp t4 _,qp t5 _,qp t6 _⟩ (fun d=>?_);clear f K;refine wpAnyH_ready (rs:=[11]) (by kernel_rfl) (by simp) ?_;refine AllReadyH.cons rfl (fun K f=>?_) AllReadyH.nil;obtain⟨hq,qq,sN⟩:=HN.out;have X:=i5.out _ _ _ _ _ sN;clear sN;refine zb rfl (.tmp 115) (.tmp 124) rfl rfl (by simp[Act.eval]) (by simp[Act.eval]) L (f.out _ _ X.1 (fun d=>?_));simp only[Act.put];clear f K;refine wpAnyH_take (i:=12) (v:=(.pointer (some ⟨q,7,none⟩))) rfl (by kernel_rfl) (by kernel_rfl) (by kernel_rfl) (fun _ _ _ h=>h) (Or.inl ⟨by rfl,fun w9 I=>?_⟩) d ?_
          ·obtain⟨a5,a0,a1,a6,a7,a8,a9⟩:=I
           go_simp
           try (with_reducible rfl)
          simp only[Act.put];refine wpAnyH_ready (rs:=[13]) (by kernel_rfl) (by simp) ?_;refine AllReadyH.cons rfl (fun K f=>?_) AllReadyH.nil
          go_simp
          refine f.out _ _ X.2 (fun d=>?_);clear f K X;refine wpAnyH_done (by kernel_rfl) ?_ _;go_wp2_with fail;go_roundg (rn - (i+1))
          case measure=>omega
          case rel=>exact⟨i+1,by simp,by omega,Nat.le_refl _,HN⟩
      ·have m5:¬(i:Int)<(rn:Int):=by omega
       have ei:i=rn:=by omega
       subst ei
       obtain⟨w8,u7⟩:∃w8,w8=wr:=⟨_,rfl⟩
       subst wr
       have e9:ry2 G i=spG G:=by rw[<-a3.out];exact qs5 G
       rw[e9]at s a4
       obtain⟨n,m6⟩:∃n,n=j+1+m:=⟨_,rfl⟩
       have d5:Hid (n=(spG G).tk+1+(spG G).nt/\(spG G).tk=j):=by
        have e1:(spG G).tk=j:=F.out;have e2:(spG G).nt=m:=HM.out;refine⟨?_,e1⟩;rw[e1,e2];exact m6
       have m0:=hid m6;clear m6
       have n8:Hid (∀V:World,SY M V u T q ⟨H,C,Y,E⟩ G ⟨na,nc,la,D,aa,ac,z,A⟩ (spG G) qs->Calls Tryz.prog 26 #[.agg #[.int .i64 (j:Int),.int .i64 (m:Int),.int .i64 (st:Int),.int .i64 G.e,.slice na nn nc,.slice la j D,.slice aa j ac,.slice z (i+1) A]] V fun e w'=>BRes V w' n (Der (spG G)) e):=fun V sV=>by
        have:=qje V _ (spG G) n d5.out.1 (qer b4.out f8.out b0.out) sV.sp.isSp;unfold sv at this;rw[a4.out]at this;exact this
       have d7:Hid (∀V:World,SY M V u T q ⟨H,C,Y,E⟩ G ⟨na,nc,la,D,aa,ac,z,A⟩ (spG G) qs->Calls Tryz.prog 27 #[.agg #[.int .i64 (j:Int),.int .i64 (m:Int),.int .i64 (st:Int),.int .i64 G.e,.slice na nn nc,.slice la j D,.slice aa j ac,.slice z (i+1) A]] V fun e w'=>BRes V w' n (Rch (spG G)) e):=fun V sV=>by
        have:=qhv V _ (spG G) n d5.out.1 (qer b4.out f8.out b0.out) sV.sp.isSp;unfold sv at this;rw[a4.out]at this;exact this
       have d9:Hid (∀V:World,SY M V u T q ⟨H,C,Y,E⟩ G ⟨na,nc,la,D,aa,ac,z,A⟩ (spG G) qs->V.heap[q]?=some (.cells #[.int .i64 (j:Int),.int .i64 (m:Int),.int .i64 (st:Int),.int .i64 G.e,.slice na nn nc,.slice la j D,.slice aa j ac,.slice z (i+1) A] 31 (0,0))):=fun V sV=>by
        have:=sV.sp.box;rw[a4.out]at this;exact this
       have g8:=hid (s.step (qo _));obtain⟨c0,n9,o0,c3,c4,c5,c6,c7⟩:=box8 (d9.out w8 s);have n5:=hid a4.out;clear s J a4
       go_upto_region 25 with fail
       go_cut [9,10] (fun s9 s10 wd=>∃f1 f2:Nat,s9=.slice (some ⟨f1,0,none⟩) n n/\s10=.slice (some ⟨f2,0,none⟩) n n/\Hid (∃d1 d2:List Bool,d1.length=n/\d2.length=n/\xm (Der (spG G)) d1/\xm (Rch (spG G)) d2/\wd.ownsRow 0 4 1 (.slice (some ⟨f1,0,none⟩) n n) n (booC d1)/\wd.ownsRow 0 4 1 (.slice (some ⟨f2,0,none⟩) n n) n (booC d2)/\SY M wd u T q ⟨H,C,Y,E⟩ G ⟨na,nc,la,D,aa,ac,z,A⟩ (spG G) qs))
       case first =>
        go_region_with(first
         | (go_at_call 26;refine(n8.out _ (by first | exact g8.out | exact b9.out)).mono ?_;rintro e VY ⟨fy,dy,rfl,ly,oy,ty,h7⟩;have c8:Hid (SY M VY u T q ⟨H,C,Y,E⟩ G ⟨na,nc,la,D,aa,ac,z,A⟩ (spG G) qs):=(by first | exact g8.out.step h7 | exact b9.out.step h7);obtain⟨y0,y1,y2,y3,y4,y5,y6,y7⟩:=box8 (d9.out VY c8.out))
         | (go_at_call 27;refine(d7.out _ (by first | exact g8.out | exact c8.out)).mono ?_;rintro e VR ⟨fr,dr,rfl,lr,or_,tr,h6⟩;have b9:Hid (SY M VR u T q ⟨H,C,Y,E⟩ G ⟨na,nc,la,D,aa,ac,z,A⟩ (spG G) qs):=(by first | exact g8.out.step h6 | exact c8.out.step h6);obtain⟨x0,x1,x2,x3,x4,x5,x6,x7⟩:=box8 (d9.out VR b9.out)))
        all_goals first
         | (have HF:Hid (∃d1 d2:List Bool,d1.length=n/\d2.length=n/\xm (Der (spG G)) d1/\xm (Rch (spG G)) d2/\VR.ownsRow 0 4 1 (.slice (some ⟨fy,0,none⟩) n n) n (booC d1)/\VR.ownsRow 0 4 1 (.slice (some ⟨fr,0,none⟩) n n) n (booC d2)/\SY M VR u T q ⟨H,C,Y,E⟩ G ⟨na,nc,la,D,aa,ac,z,A⟩ (spG G) qs):=⟨dy,dr,ly,lr,ty,tr,zl (zc oy (Nat.zero_le _)) h6,zc or_ (Nat.zero_le _),b9.out⟩
            clear y0 y1 y2 y3 y4 y5 y6 y7 x0 x1 x2 x3 x4 x5 x6 x7 oy or_ ly lr ty tr h7 h6;go_wp2_with fail;go_meet
            exact⟨fy,fr,rfl,rfl,HF⟩)
         | (have HF:Hid (∃d1 d2:List Bool,d1.length=n/\d2.length=n/\xm (Der (spG G)) d1/\xm (Rch (spG G)) d2/\VY.ownsRow 0 4 1 (.slice (some ⟨fy,0,none⟩) n n) n (booC d1)/\VY.ownsRow 0 4 1 (.slice (some ⟨fr,0,none⟩) n n) n (booC d2)/\SY M VY u T q ⟨H,C,Y,E⟩ G ⟨na,nc,la,D,aa,ac,z,A⟩ (spG G) qs):=⟨dy,dr,ly,lr,ty,tr,zc oy (Nat.zero_le _),zl (zc or_ (Nat.zero_le _)) h7,c8.out⟩
            clear y0 y1 y2 y3 y4 y5 y6 y7 x0 x1 x2 x3 x4 x5 x6 x7 oy or_ ly lr ty tr h7 h6;go_wp2_with fail;go_meet
            exact⟨fy,fr,rfl,rfl,HF⟩)
       case rest =>
        obtain⟨f1,f2,rfl,rfl,J0⟩:=hcut
        obtain⟨w9,u8⟩:∃w9,w9=wc:=⟨_,rfl⟩
        subst wc;clear c0 n9 o0 c3 c4 c5 c6 c7 n8 d7 g8;obtain⟨d1,d2,l1,l2,t1,t2,o1,o2,s9⟩:=J0.out
        have HJ:Hid (d1.length=n/\d2.length=n/\xm (Der (spG G)) d1/\xm (Rch (spG G)) d2/\w9.ownsRow 0 4 1 (.slice (some ⟨f1,0,none⟩) n n) n (booC d1)/\w9.ownsRow 0 4 1 (.slice (some ⟨f2,0,none⟩) n n) n (booC d2)/\SY M w9 u T q ⟨H,C,Y,E⟩ G ⟨na,nc,la,D,aa,ac,z,A⟩ (spG G) qs):=⟨l1,l2,t1,t2,o1,o2,s9⟩
        obtain⟨c0,n9,o0,c3,c4,c5,c6,c7⟩:=box8 (d9.out w9 s9);obtain⟨z0,z1,z2,z3,z4,z5,z6,z7⟩:=box8 s9.rx;obtain⟨g0,s4,g2,g3,g4,g5,g6,g7⟩:=qa6 s9.rx
        have HF:Hid (∀v0 v1 v2 v3 v4 v5 v6 v7,IsSp (set8 w9 T v0 v1 v2 v3 v4 v5 v6 v7) ⟨na,nc,la,D,aa,ac,z,A⟩ (spG G)/\Below w.heap.size w (set8 w9 T v0 v1 v2 v3 v4 v5 v6 v7)):=fun v0 v1 v2 v3 v4 v5 v6 v7=>⟨(s9.sp.own.set8 ⟨_,s9.rx⟩).isSp,jh (qd H5.out.1.2.2 s9.sp.bel) f9.out⟩
        clear l1 l2 t1 t2 o1 o2 s9 J0 d9;go_wp2_with fail
        go_loopg [11] n (fun kx s11 wr=>∃x:Nat,s11=.int .i64 x/\j+1<=x/\x<=n/\n - x<=kx/\Hid (wr=w9/\∀y,j<y->y<x->Der (spG G) y/\Rch (spG G) y))
        case atStart=>exact⟨j+1,by simp,Nat.le_refl _,by have:=m0.out;omega,by omega,(⟨rfl,fun x h1 h2=>by omega⟩:w9=w9/\∀y,j<y->y<j+1->Der (spG G) y/\Rch (spG G) y)⟩
        case round =>
         obtain⟨x,rfl,u9,hx,b3,J⟩:=hrel;obtain⟨r7,hJ⟩:=J.out;subst r7;have HX:=hid hJ;clear J hJ
         by_cases b6:x<n
         ·have h9:(x:Int)<=(j:Int)+(m:Int):=by have:=m0.out;omega
          have r9:(x:Int)<(n:Int):=by omega
          have q1:=qc8 HJ.out.2.2.2.2.1 HJ.out.1 b6;have q2:=qc8 HJ.out.2.2.2.2.2.1 HJ.out.2.1 b6
          obtain⟨x1,n6⟩:∃x1,Hid (isF d1 x=x1):=⟨_,rfl⟩
          obtain⟨x2,n7⟩:∃x2,Hid (isF d2 x=x2):=⟨_,rfl⟩
          rw[n6.out]at q1;rw[n7.out]at q2
          have T1:Hid (x1=true↔Der (spG G) x):=by rw[<-n6.out];exact qay HJ.out.2.2.1 (by rw[HJ.out.1];exact b6)
          have T2:Hid (x2=true↔Rch (spG G) x):=by rw[<-n7.out];exact qay HJ.out.2.2.2.1 (by rw[HJ.out.2.1];exact b6)
          have g9:(¬Der (spG G) x\/¬Rch (spG G) x)->Hid (k=8):=fun e=>by
           have hu:qbv (spG G):=⟨x,by have:=d5.out.2;omega,by have:=d5.out.1;omega,e⟩
           rcases HK.out with e | e | e | e | e
           ·exact absurd b4.out e.2
           ·exact absurd e.2.2 f8.out
           ·exact absurd b0.out e.2.2.2
           ·exact e.1
           ·exact absurd hu e.2.2.2.2
          cases x1
          ·have O:=g9 (.inl (fun e=>by have:=T1.out.2 e;cases this))
           clear g9;go_wp2_with fail;refine bodyPost_ret (v:=.tuple #[.agg zC,.int .i64 8]) (by unfold zC sC;simp[results,Tryz.results9,go_sem, *]) rfl ?_
           exact⟨.inl ⟨by rw[O.out];decide,by rw[O.out]⟩,(HF.out _ _ _ _ _ _ _ _).2⟩
          ·cases x2
           ·have O:=g9 (.inr (fun e=>by have:=T2.out.2 e;cases this))
            clear g9;go_wp2_with fail;refine bodyPost_ret (v:=.tuple #[.agg zC,.int .i64 8]) (by unfold zC sC;simp[results,Tryz.results9,go_sem, *]) rfl ?_
            exact⟨.inl ⟨by rw[O.out];decide,by rw[O.out]⟩,(HF.out _ _ _ _ _ _ _ _).2⟩
           ·have q7:Hid (∀y,j<y->y<x+1->Der (spG G) y/\Rch (spG G) y):=fun y h1 h2=>by
             rcases Nat.lt_or_ge y x with h3 | h3
             ·exact HX.out y h1 h3
             ·have:y=x:=by omega
              subst this;exact⟨T1.out.1 rfl,T2.out.1 rfl⟩
            clear g9;go_wp2_with fail;go_roundg (n - (x+1))
            case measure=>omega
            case rel=>exact⟨x+1,by simp,by omega,by omega,Nat.le_refl _,(⟨rfl,q7.out⟩:wr=wr/\∀y,j<y->y<x+1->Der (spG G) y/\Rch (spG G) y)⟩
         ·have h9:¬(x:Int)<=(j:Int)+(m:Int):=by have:=m0.out;omega
          have O:Hid (k=0):=by
           have hu:¬qbv (spG G):=fun⟨y,h1,h2,h3⟩=>by
            have h4:=HX.out y (by have:=d5.out.2;omega) (by have:=d5.out.1;omega)
            rcases h3 with h3 | h3
            ·exact absurd h4.1 h3
            ·exact absurd h4.2 h3
           rcases HK.out with e | e | e | e | e
           ·exact absurd b4.out e.2
           ·exact absurd e.2.2 f8.out
           ·exact absurd b0.out e.2.2.2
           ·exact absurd e.2.2.2.2 hu
           ·exact e.1
          go_wp2_with fail;refine bodyPost_ret (v:=.tuple #[.agg #[.int .i64 (j:Int),.int .i64 (m:Int),.int .i64 (st:Int),.int .i64 G.e,.slice na nn nc,.slice la j D,.slice aa j ac,.slice z (i+1) A],.int .i64 0]) (by simp[results,Tryz.results9,go_sem, *]) rfl ?_;exact⟨.inr ⟨O.out,⟨na,nc,la,D,aa,ac,z,A⟩,by unfold sv;rw[n5.out],(HF.out _ _ _ _ _ _ _ _).1⟩,(HF.out _ _ _ _ _ _ _ _).2⟩
def zS:Sp:=⟨0,0,0,0,[],[],[],[]⟩
def spK (G:Gm) (k:Int):Sp:=if k=0 then spG G else zS
theorem quz(w:World):IsSp w ⟨none,0,none,0,none,0,none,0⟩ zS :=
 have z:∀(k:Nat),Row w k none 0 0 []:=fun k=>⟨by simp,Nat.le_refl _,Nat.zero_le _,.inl ⟨rfl,rfl,rfl⟩⟩
 ⟨z 1,z 1,z 1,⟨[],rfl,z 4,fun q h=>(by cases h)⟩⟩
theorem qtb(G:Gm)(h:Hd)(w:World)(k:Int)(f:IsG w h G)(g:OfR G k):Calls Tryz.prog 9 #[gv h G] w fun e c=>∃a,e=.returned (.tuple #[.agg (sC a (spK G k)),.int .i64 k])/\IsSp c a (spK G k)/\Below w.heap.size w c:=by
 refine(qpt G h w k f g).mono ?_;rintro e c ⟨b,d⟩;unfold spK
 rcases b with ⟨b,rfl⟩ | ⟨rfl,a,rfl,hs⟩
 ·rw[if_neg b];exact⟨⟨none,0,none,0,none,0,none,0⟩,rfl,quz _,d⟩
 ·rw[if_pos rfl];exact⟨a,rfl,hs,d⟩
theorem qn5(l:List Int)(h i:Option Addr)(n m o:Nat)(w:World)(b:Row w 1 h n m (intC l))(c:Row w 1 i n o (intC l))(j:n=l.length)(z:n<=1000):
  Calls Tryz.prog 54 #[.slice h n m,.slice i n o] w fun e s=>e=.returned (.bool true)/\Below w.heap.size w s:=by
 have p:=hid j;have g:=hid2 b c;have D:=zk b;have E:=zk c;clear j b c;go_enter Tryz.func54,Tryz.ntmps54;go_wp2_with fail
 go_loopg [5] n (fun kx s5 wr=>∃k:Nat,s5=.int .i64 k/\k<=n/\n - k<=kx/\Hid (Below w.heap.size w wr))
 case atStart=>exact⟨0,rfl,Nat.zero_le _,by omega,(Below.refl _ _:Below w.heap.size w w)⟩
 case round =>
  obtain⟨k,rfl,y,v,J⟩:=hrel
  by_cases d:k<n
  ·have a:(k:Int)<(n:Int):=by omega
   obtain⟨x,f⟩:∃x,l[k]?=some x:=⟨l[k]'(by rw[<-p.out];exact d),List.getElem?_eq_getElem _⟩
   obtain⟨t,B,rfl,c1⟩:=qc2 (g.out.1.below J.out) f;obtain⟨u,C,rfl,c2⟩:=qc2 (g.out.2.below J.out) f;clear f
   have r:Hid (∀q,Below w.heap.size w (wr.drewN q)):=fun q=>qa2 J.out q
   clear J;have A:=qaf
   go_upto_region 6 with fail
   go_quiet (fail);go_wp2_with fail;go_roundg (n - (k+1))
   case measure=>omega
   case rel=>exact⟨k+1,by simp,by omega,Nat.le_refl _,r.out _⟩
  ·have a:¬(k:Int)<(n:Int):=by omega
   go_wp2_with fail;go_ret;exact⟨rfl,J.out⟩
theorem qrr(l:List Nat):natC l=intC (l.map fun x:Nat=>(x:Int)):=by
 unfold natC intC;rw[List.map_map];rfl
theorem qbw(l:List Nat)(a b:Option Addr)(n c d:Nat)(w:World)(f:Row w 1 a n c (natC l))(g:Row w 1 b n d (natC l))(h:n=l.length)(i:n<=1000):
  Calls Tryz.prog 54 #[.slice a n c,.slice b n d] w fun e j=>e=.returned (.bool true)/\Below w.heap.size w j:=by
 rw[qrr]at f g;exact qn5 _ a b n c d w f g (by rw[List.length_map];exact h) i
theorem qla(w:World)(a:Pow w):Calls Tryz.prog 53 #[] w fun e d=>e=.returned (.bool true)/\Below w.heap.size w d:=by
 have b:=hid (qk9 w a);clear a;go_enter Tryz.func53,Tryz.ntmps53;go_wp2_with fail;refine b.out.mono ?_;rintro e V ⟨rfl,c⟩;go_wp2_with fail;go_ret;exact⟨rfl,c⟩
def Lst (w w':World) (l:List Nat) (e:Ending):Prop:=∃la lc,e=.returned (.slice la l.length lc)/\Row w' 1 la l.length lc (natC l)/\Below w.heap.size w w'
theorem Told.is{w a:World}{m:Nat}{Q:Nat->Prop}{e:Ending}{l:List Nat}(h:Told w a m Q e)(k:IsL m Q l):Lst w a l e:=by
 obtain⟨l',g,i,b,c,d,f⟩:=h;have:=c.uni k;subst this;exact⟨g,i,b,Row.of_own d,f⟩
theorem qtc:IsL 4 (FstP (spG q9) 4) [0]:=qdu (fun t=>t == 0) (fun t _=>by rw[qa0,beq_iff_eq];omega)
theorem qrs:IsL 4 (FolP (spG q9) 4) [1,2,3]:=qdu (fun t=>t != 0) (fun t _=>by rw[qrj,bne_iff_ne];omega)
theorem q_of:IsL 4 (fun t=>FstL (spG q9) [1,4] t\/((∀z∈[1,4],Nul (spG q9) z)/\(t:Int)=3)) [1]:=qdu (fun t=>t == 1) (fun t _=>by
 rw[qbg,qa0,beq_iff_eq]
 constructor
 ·intro h;exact .inl (.inl ⟨by omega,h⟩)
 ·rintro(h | ⟨h,-⟩)
  ·omega
  ·exact absurd (h 1 (by simp)) (qdt 1))
theorem qt7:IsL 4 (fun t=>FstL (spG q9) [] t\/((∀z∈([]:List Nat),Nul (spG q9) z)/\(t:Int)=3)) [3]:=qdu (fun t=>t == 3) (fun t _=>by
 rw[beq_iff_eq]
 constructor
 ·intro h;exact .inr ⟨fun z a=>(by cases a),by omega⟩
 ·rintro(h | ⟨-,h⟩)
  ·exact absurd h qdh
  ·omega)
theorem qce(W:World)(l:List Nat)(n:Nat)(a:l.length=n)(b:n<=1000):Row (W.alloc (.cells (natC l).toArray 3)) 1 (some ⟨W.heap.size,0,none⟩) n n (natC l):=by
 refine⟨by rw[j3,a,Nat.mul_one],Nat.le_refl _,by unfold maxLen;omega,.inr ⟨_,_,rfl,fun j u c=>?_⟩⟩
 have h:(W.alloc (.cells (natC l).toArray 3)).heap[W.heap.size]?=some (.cells (natC l).toArray 3 (0,0)):=heap_alloc_new _ _;rw[Nat.zero_add,qe h,<-c];exact List.getElem?_toArray
theorem qt8:q9.ts.length+1+(lfs q9.rs).length=5:=by rw[ye];rfl
theorem qjj(w:World)(h:Hd)(n:IsG w h q9):Calls Tryz.prog 9 #[gv h q9] w fun e k=>∃f g c d a b i j,e=.returned (.tuple #[.agg #[.int .i64 3,.int .i64 1,.int .i64 4,.int .i64 0,.slice f 5 g,.slice c 3 d,.slice a 3 b,.slice i 4 j],.int .i64 0])/\IsSp k ⟨f,g,c,d,a,b,i,j⟩ (spG q9)/\Below w.heap.size w k:=by
 refine(qtb q9 h w 0 n qhw).mono ?_;rintro e k ⟨⟨f,g,c,d,a,b,i,j⟩,rfl,l,o⟩;have m:spK q9 0=spG q9:=if_pos rfl;rw[m]at l ⊢;refine⟨f,g,c,d,a,b,i,j,?_,l,o⟩;rw[x8];rfl
theorem qt9(w:World)(hp:Pow w):Calls Tryz.prog 38 #[] w fun e a=>e=.returned (.bool true)/\Below w.heap.size w a:=by
 have HP:=hid hp;clear hp
 have X:Hid (∀V:World,Calls Tryz.prog 18 #[] V fun e a=>∃L M b c,e=.returned (.agg #[.slice L 3 M,.string ⟨#[]⟩,.int .i64 0,.slice b 3 c])/\(∃qs,OwnG a V.heap.size ⟨L,M,b,c⟩ q9 qs)/\Below V.heap.size V a):=fun V=>(qdi V).mono fun e a ⟨⟨L,M,b,c⟩,qs,h1,h2,h3⟩=>⟨L,M,b,c,h1,⟨qs,h2⟩,h3⟩
 go_enter Tryz.func38,Tryz.ntmps38;go_wp2_with fail;refine(X.out _).mono ?_;rintro e V1 ⟨L,M,b8,b9,rfl,a5,Y⟩
 have HC:Hid (Calls Tryz.prog 9 #[.agg #[.slice L 3 M,.string ⟨#[]⟩,.int .i64 0,.slice b8 3 b9]] V1 fun e a=>∃t u r s o q b c,e=.returned (.tuple #[.agg #[.int .i64 3,.int .i64 1,.int .i64 4,.int .i64 0,.slice t 5 u,.slice r 3 s,.slice o 3 q,.slice b 4 c],.int .i64 0])/\IsSp a ⟨t,u,r,s,o,q,b,c⟩ (spG q9)/\Below V1.heap.size V1 a):=by
  obtain⟨qs,ho⟩:=a5;exact qjj V1 ⟨L,M,b8,b9⟩ (ho.isG qap)
 have P:=hid Y;clear a5 Y X;go_wp2_with fail;refine HC.out.mono ?_;rintro e J ⟨t,u,r,s,o,q,b,c,rfl,hs,Z⟩;have hv:Below J.heap.size J (J.alloc (.cells #[.int .i64 3,.int .i64 1,.int .i64 4,.int .i64 0,.slice t 5 u,.slice r 3 s,.slice o 3 q,.slice b 4 c] 31)):=qb _ _;have hx:(J.alloc (.cells #[.int .i64 3,.int .i64 1,.int .i64 4,.int .i64 0,.slice t 5 u,.slice r 3 s,.slice o 3 q,.slice b 4 c] 31)).heap[J.heap.size]?=some (.cells #[.int .i64 3,.int .i64 1,.int .i64 4,.int .i64 0,.slice t 5 u,.slice r 3 s,.slice o 3 q,.slice b 4 c] 31 (0,0)):=heap_alloc_new _ _;have j:=hid3 (hs.below hv) hx (qd (qd P.out Z) hv);clear hs hv hx Z HC P
 go_upto_region 2 with fail
 generalize J.alloc (.cells #[.int .i64 3,.int .i64 1,.int .i64 4,.int .i64 0,.slice t 5 u,.slice r 3 s,.slice o 3 q,.slice b 4 c] 31)=k at j ⊢;generalize J.heap.size=H at j ⊢
 have k0:k.cell? ⟨H,0,none⟩=some (.int .i64 3):=by rw[qe j.out.2.1];rfl
 have k1:k.cell? ⟨H,1,none⟩=some (.int .i64 1):=by rw[qe j.out.2.1];rfl
 have k2:k.cell? ⟨H,2,none⟩=some (.int .i64 4):=by rw[qe j.out.2.1];rfl
 have k3:k.cell? ⟨H,3,none⟩=some (.int .i64 0):=by rw[qe j.out.2.1];rfl
 have k4:k.cell? ⟨H,4,none⟩=some (.slice t 5 u):=by rw[qe j.out.2.1];rfl
 have k5:k.cell? ⟨H,5,none⟩=some (.slice r 3 s):=by rw[qe j.out.2.1];rfl
 have k6:k.cell? ⟨H,6,none⟩=some (.slice o 3 q):=by rw[qe j.out.2.1];rfl
 have k7:k.cell? ⟨H,7,none⟩=some (.slice b 4 c):=by rw[qe j.out.2.1];rfl
 have HN:Hid (Calls Tryz.prog 52 #[.agg #[.int .i64 3,.int .i64 1,.int .i64 4,.int .i64 0,.slice t 5 u,.slice r 3 s,.slice o 3 q,.slice b 4 c]] k fun e a=>∃n p E N,e=.returned (.pointer (some ⟨n,0,none⟩))/\FS a k.heap.size n p 5 (spG q9) E N/\Below k.heap.size k a):=by
  have a4:=quy qhw;rw[qt8]at a4;have hc:=qny k ⟨t,u,r,s,o,q,b,c⟩ (spG q9) 5 a4 j.out.1
  have e1:sv ⟨t,u,r,s,o,q,b,c⟩ (spG q9)=.agg #[.int .i64 3,.int .i64 1,.int .i64 4,.int .i64 0,.slice t 5 u,.slice r 3 s,.slice o 3 q,.slice b 4 c]:=by
   unfold sv sC;rw[x8];rfl
  rw[e1]at hc;exact hc
 go_wp2_with fail;refine HN.out.mono ?_;rintro e l ⟨n,p,E,N,rfl,a3,a0⟩;clear k0 k1 k2 k3 k4 k5 k6 k7 HN;have H4:=hid2 a3 (qd j.out.2.2 a0);clear a3 a0 j
 have O:Hid (∀V,Below l.heap.size l V->(Calls Tryz.prog 55 #[.pointer (some ⟨n,0,none⟩),.int .i64 4] V fun e a=>Lst V a [0] e)/\(Calls Tryz.prog 56 #[.pointer (some ⟨n,0,none⟩),.int .i64 4] V fun e a=>Lst V a [1,2,3] e)/\(Calls Tryz.prog 57 #[.pointer (some ⟨n,0,none⟩),.int .i64 4] V fun e a=>e=.returned (.bool false)/\a=V)/\(∀sa sc,Row V 1 sa 2 sc (natC [1,4])->Calls Tryz.prog 58 #[.pointer (some ⟨n,0,none⟩),.slice sa 2 sc,.int .i64 3] V fun e a=>Lst V a [1] e)/\(Calls Tryz.prog 58 #[.pointer (some ⟨n,0,none⟩),.slice none 0 0,.int .i64 3] V fun e a=>Lst V a [3] e)):=fun V hV=>by
  have K:=H4.out.1.below hV;have F:=vw.1;refine⟨?_,?_,?_,fun sa sc hr=>?_,?_⟩
  ·refine(qkr V _ n 5 p E _ N K 4 (by omega) (by rw[F];omega)).mono fun e a h=>?_
   rw[F]at h;exact h.is qtc
  ·refine(qjf V _ n 5 p E _ N K 4 (by omega) (by rw[F];omega)).mono fun e a h=>?_
   rw[F]at h;exact h.is qrs
  ·have hn:isF E 4=false:=by
    cases hb:isF E 4
    ·rfl
    ·exact absurd ((K.emp 4).1 hb) (qdt 4)
   have:=qem V n p.eb 5 5 4 (isF E 4) K.fm.c1 (by omega) (K.fm.ce (by omega));rw[hn]at this;exact this
  ·refine(qeo V _ n 5 p E _ N K [1,4] sa 2 sc rfl (by omega) hr (fun z hz=>by
    simp only[List.mem_cons,List.not_mem_nil,or_false]at hz;rw[F]
    rcases hz with rfl | rfl <;> omega) 3 (.inr ⟨by omega,by rw[F];omega⟩)).mono fun e a h=>?_
   rw[F]at h;exact h.is q_of
  ·refine(qeo V _ n 5 p E _ N K [] none 0 0 rfl (by omega) ⟨rfl,Nat.le_refl _,Nat.zero_le _,.inl ⟨rfl,rfl,rfl⟩⟩ (fun z hz=>by cases hz) 3 (.inr ⟨by omega,by rw[F];omega⟩)).mono fun e a h=>?_
   rw[F]at h;exact h.is qt7
 have c3:=hid (HP.out.below H4.out.2);go_wp2_with fail;refine(qla l c3.out).mono ?_;rintro e V5 ⟨rfl,v⟩;have R:=hid v;clear v;go_wp2_with fail;refine((O.out V5 R.out).1).mono ?_;rintro e d ⟨b0,b4,rfl,a6,v⟩
 have A:Hid (Row (d.alloc (.cells #[.int .i64 0] 3)) 1 b0 1 b4 (natC [0])/\Row (d.alloc (.cells #[.int .i64 0] 3)) 1 (some ⟨d.heap.size,0,none⟩) 1 1 (natC [0])/\Below l.heap.size l (d.alloc (.cells #[.int .i64 0] 3))):=⟨a6.below (qb _ _),qce d [0] 1 rfl (by omega),qd (qd R.out v) (qb _ _)⟩
 clear a6 v;go_wp2_with fail;refine(qbw [0] b0 (some ⟨d.heap.size,0,none⟩) 1 b4 1 (d.alloc (.cells #[.int .i64 0] 3)) A.out.1 A.out.2.1 rfl (by omega)).mono ?_;rintro e V6 ⟨rfl,x⟩;have S:=hid (qd A.out.2.2 x);clear x A;go_wp2_with fail;refine((O.out V6 S.out).2.1).mono ?_;rintro e f ⟨b1,b5,rfl,a7,x⟩
 have B:Hid (Row (f.alloc (.cells #[.int .i64 1,.int .i64 2,.int .i64 3] 3)) 1 b1 3 b5 (natC [1,2,3])/\Row (f.alloc (.cells #[.int .i64 1,.int .i64 2,.int .i64 3] 3)) 1 (some ⟨f.heap.size,0,none⟩) 3 3 (natC [1,2,3])/\Below l.heap.size l (f.alloc (.cells #[.int .i64 1,.int .i64 2,.int .i64 3] 3))):=⟨a7.below (qb _ _),qce f [1,2,3] 3 rfl (by omega),qd (qd S.out x) (qb _ _)⟩
 clear a7 x;go_wp2_with fail;refine(qbw [1,2,3] b1 (some ⟨f.heap.size,0,none⟩) 3 b5 3 (f.alloc (.cells #[.int .i64 1,.int .i64 2,.int .i64 3] 3)) B.out.1 B.out.2.1 rfl (by omega)).mono ?_;rintro e V7 ⟨rfl,a1⟩;have T:=hid (qd B.out.2.2 a1);clear a1 B;go_wp2_with fail;refine((O.out V7 T.out).2.2.1).mono ?_;rintro e m ⟨rfl,rfl⟩
 have I:Hid (Below l.heap.size l (m.alloc (.cells #[.int .i64 1,.int .i64 4] 3))/\Row (m.alloc (.cells #[.int .i64 1,.int .i64 4] 3)) 1 (some ⟨m.heap.size,0,none⟩) 2 2 (natC [1,4])):=⟨qd T.out (qb _ _),qce m [1,4] 2 rfl (by omega)⟩
 go_wp2_with fail;refine((O.out (m.alloc (.cells #[.int .i64 1,.int .i64 4] 3)) I.out.1).2.2.2.1 (some ⟨m.heap.size,0,none⟩) 2 I.out.2).mono ?_;rintro e g ⟨b2,b6,rfl,a8,a2⟩
 have C:Hid (Row (g.alloc (.cells #[.int .i64 1] 3)) 1 b2 1 b6 (natC [1])/\Row (g.alloc (.cells #[.int .i64 1] 3)) 1 (some ⟨g.heap.size,0,none⟩) 1 1 (natC [1])/\Below l.heap.size l (g.alloc (.cells #[.int .i64 1] 3))):=⟨a8.below (qb _ _),qce g [1] 1 rfl (by omega),qd (qd I.out.1 a2) (qb _ _)⟩
 clear a8 a2;go_wp2_with fail;refine(qbw [1] b2 (some ⟨g.heap.size,0,none⟩) 1 b6 1 (g.alloc (.cells #[.int .i64 1] 3)) C.out.1 C.out.2.1 rfl (by omega)).mono ?_;rintro e V9 ⟨rfl,y⟩;have U:=hid (qd C.out.2.2 y);clear y C;go_wp2_with fail;refine((O.out V9 U.out).2.2.2.2).mono ?_;rintro e i ⟨b3,b7,rfl,a9,y⟩
 have D:Hid (Row (i.alloc (.cells #[.int .i64 3] 3)) 1 b3 1 b7 (natC [3])/\Row (i.alloc (.cells #[.int .i64 3] 3)) 1 (some ⟨i.heap.size,0,none⟩) 1 1 (natC [3])/\Below l.heap.size l (i.alloc (.cells #[.int .i64 3] 3))):=⟨a9.below (qb _ _),qce i [3] 1 rfl (by omega),qd (qd U.out y) (qb _ _)⟩
 clear a9 y;go_wp2_with fail;refine(qbw [3] b3 (some ⟨i.heap.size,0,none⟩) 1 b7 1 (i.alloc (.cells #[.int .i64 3] 3)) D.out.1 D.out.2.1 rfl (by omega)).mono ?_;rintro e c4 ⟨rfl,G⟩;have Q:=hid (qd D.out.2.2 G);clear G D;go_wp2_with fail;go_ret;exact⟨rfl,H4.out.2.trans (Q.out.mono H4.out.2.size)⟩
def qsa:List (String × DataW Unit):=[("math/bits.deBruijn32tab", Rows.laid_math_bits_deBruijn32tab),("math/bits.deBruijn64tab", Rows.laid_math_bits_deBruijn64tab),("internal/strconv.uint64pow10", Rows.laid_internal_strconv_uint64pow10),("strconv.ErrRange", Rows.laid_strconv_ErrRange),("strconv.ErrSyntax", Rows.laid_strconv_ErrSyntax)]
theorem own:ownKnob Tryz.prog.godebug=none:=by kernel_rfl
theorem qu5:laidOutB Tryz.prog=true:=by kernel_rfl
theorem gPow:Tryz.prog.globalNamed "internal/strconv.uint64pow10" = some 3:=by kernel_rfl
theorem tPow:(Tryz.prog.globals[3]?).map (·.type)=some 264:=by kernel_rfl
theorem qrt:Tryz.prog.cellsOf 140=1:=by kernel_rfl
theorem qru:Tryz.prog.cellsOf 264=20:=by kernel_rfl
theorem qu3(a:Os)(args:Array Value):laidMetH Tryz.prog qsa ((World.doorLaid Tryz.prog 192 a).forCall (fun _ _=>0) ⟨#[],args,[]⟩).memory :=
 laidMetH_of_parts3 (fuel:=8) (laidMet_of_run' 8 (by kernel_rfl) (by kernel_rfl)) (by kernel_rfl) (by kernel_rfl)
def powZ:List Int:=[1,10,100,1000,10000,100000,1000000,10000000,100000000,1000000000,10000000000,100000000000,1000000000000,10000000000000,100000000000000,1000000000000000,10000000000000000,100000000000000000,1000000000000000000,10000000000000000000]
theorem quk{W:World}(h:laidMetH Tryz.prog qsa W):Pow W:=by
 rw[MakeChecks.laidMetH_plain _ _ _ (by kernel_rfl)]at h;obtain⟨ps,⟨_,_,_,_,_,_,_,_,_,_,⟨_,_,_,_,_,_,_,_,_,_,⟨k,t',cs,fuel,p,q,b,c,a,hd,_,_⟩,_⟩,_⟩,_⟩:=h;obtain rfl:=Option.some.inj (gPow.symm.trans b);obtain rfl:=Option.some.inj (tPow.symm.trans c)
 have f:Lib.TabIs Tryz.prog W "internal/strconv.uint64pow10" .u64 powZ:=by
  unfold Lib.TabIs;rw[a,<-Lib.cells_of_tab (zs:=powZ) Tryz.underlying264 Tryz.underlying140 qrt qru hd]
 intro i d;rw[f.cell gPow i d]
 have g:∀j,j<20->powZ.getD j 0=((10 ^ j:Nat):Int):=by decide
 rw[g i d]
abbrev It:=Nat × Nat
def ahd (S:Sp) (x:It):Option Nat:=(S.rs[x.1]?).bind (fun r=>r.r[x.2]?)
abbrev ltI (x y:It):Prop:=x.1<y.1\/x.1=y.1/\x.2<y.2
theorem qda(x:It):¬ltI x x:=by unfold ltI;omega
theorem qpu{x y z:It}(h:ltI x y)(k:ltI y z):ltI x z:=by unfold ltI at *;omega
theorem qtd{x y:It}(h:¬ltI x y)(k:¬ltI y x):x=y:=by
 unfold ltI at *
 exact Prod.ext (by omega) (by omega)
def Sor (l:List It):Prop:=l.Pairwise ltI
theorem qm3:∀{l m:List It},Sor l->Sor m->(∀x,x∈l↔x∈m)->l=m
 | [],[],_,_,_=>rfl
 | [],y :: m,_,_,h=>absurd ((h y).2 (by simp)) (by simp)
 | x :: l,[],_,_,h=>absurd ((h x).1 (by simp)) (by simp)
 | x :: l,y :: m,hl,hm,h=>by
  obtain⟨b,f⟩:=List.pairwise_cons.1 hl;obtain⟨c,g⟩:=List.pairwise_cons.1 hm
  have e:x=y:=by
   rcases List.mem_cons.1 ((h x).1 (by simp)) with e | e
   ·exact e
   ·rcases List.mem_cons.1 ((h y).2 (by simp)) with e' | e'
    ·exact e'.symm
    ·exact absurd (qpu (c x e) (b y e')) (qda y)
  subst e
  have d:l=m:=qm3 f g (fun z=>by
   constructor
   ·intro a
    rcases List.mem_cons.1 ((h z).1 (by simp[a])) with e | e
    ·exact absurd (e ▸ b z a) (qda _)
    ·exact e
   ·intro a
    rcases List.mem_cons.1 ((h z).2 (by simp[a])) with e | e
    ·exact absurd (e ▸ c z a) (qda _)
    ·exact e)
  rw[d]
def ClP (S:Sp) (P:It->Prop):Prop:=∀(y:It) (i:Nat) (r:SR) (z:Nat),P y->ahd S y=some z->0<i->S.rs[i]?=some r->r.l=(z:Int)->P (i,0)
def InC (S:Sp) (K:List It) (x:It):Prop:=∀P:It->Prop,(∀y∈K,P y)->ClP S P->P x
theorem InC.mem{S:Sp}{K:List It}{x:It}(h:x∈K):InC S K x:=fun _ a _=>a x h
theorem InC.step{S:Sp}{K:List It}:ClP S (InC S K):=fun y i r z h c d g f P b a=>a y i r z (h P b a) c d g f
def vq (S:Sp) (K L:List It):Prop:=Sor L/\∀x,x∈L↔InC S K x
def CloF (S:Sp) (C:List It->List It):Prop:=∀K L,vq S K L->C K=L
theorem qua(S:Sp):∃C,CloF S C:=by
 classical
 refine⟨fun K=>if h:∃L,vq S K L then Classical.choose h else [],fun K L h=>?_⟩;show(if h:∃L,vq S K L then Classical.choose h else [])=L;rw[dif_pos ⟨L,h⟩];have a:=Classical.choose_spec (⟨L,h⟩:∃L,vq S K L);exact qm3 a.1 h.1 (fun x=>(a.2 x).trans (h.2 x).symm)
theorem qrv{S:Sp}{K L:List It}(a:Sor L)(b:∀x∈L,InC S K x)(c:∀x∈K,x∈L)(d:ClP S (·∈L)):vq S K L :=
 ⟨a,fun x=>⟨b x,fun h=>h _ c d⟩⟩
def OkI (S:Sp) (x:It):Prop:=∃r,S.rs[x.1]?=some r/\x.2<=r.r.length
theorem qpv{S:Sp}{K:List It}(a:∀x∈K,OkI S x){x:It}(h:InC S K x):OkI S x :=
 h _ a (fun _ _ r _ _ _ _ b _=>⟨r,b,Nat.zero_le _⟩)
theorem qlb{S:Sp}{x:It}{z:Nat}(h:ahd S x=some z):∃r,S.rs[x.1]?=some r/\r.r[x.2]?=some z:=by
 unfold ahd at h;exact Option.bind_eq_some_iff.1 h
def nxt (S:Sp) (L:List It) (y:Nat):List It:=(L.filter (fun x=>ahd S x == some y)).map (fun x=>(x.1,x.2+1))
theorem qte{S:Sp}{L:List It}(h:Sor L)(y:Nat):Sor (nxt S L y):=by
 unfold nxt Sor;rw[List.pairwise_map];exact(h.filter _).imp (fun {a b} c=>by unfold ltI at *;simp only;omega)
theorem qm4{S:Sp}{L:List It}{y:Nat}{x:It}:x∈nxt S L y↔∃i d,x=(i,d+1)/\(i,d)∈L/\ahd S (i,d)=some y:=by
 unfold nxt;rw[List.mem_map]
 constructor
 ·rintro⟨⟨i,d⟩,h,rfl⟩;rw[List.mem_filter,beq_iff_eq]at h;exact⟨i,d,rfl,h.1,h.2⟩
 ·rintro⟨i,d,rfl,a,b⟩;exact⟨(i,d),List.mem_filter.2 ⟨a,by rw[beq_iff_eq];exact b⟩,rfl⟩
theorem qub{S:Sp}{L:List It}{y:Nat}{x:It}(h:x∈nxt S L y):OkI S x:=by
 obtain⟨i,d,rfl,-,a⟩:=qm4.1 h;obtain⟨r,b,c⟩:=qlb a;exact⟨r,b,(List.getElem?_eq_some_iff.1 c).1⟩
theorem qg6(S:Sp)(L:List It)(y:Nat):(nxt S L y).length<=L.length:=by
 unfold nxt;rw[List.length_map];exact List.length_filter_le _ _
theorem qrw(S:Sp)(L:List It)(x:It)(y:Nat):nxt S (L++[x]) y=nxt S L y++(if ahd S x=some y then [(x.1,x.2+1)] else []):=by
 unfold nxt;rw[List.filter_append,List.map_append]
 congr 1
 by_cases h:ahd S x=some y
 ·rw[if_pos h,List.filter_cons_of_pos (by rw[beq_iff_eq];exact h)];rfl
 ·rw[if_neg h,List.filter_cons_of_neg (by rw[beq_iff_eq];exact h)];rfl
theorem qm5:∀(l:List Nat) (N a:Nat),l.Pairwise (·<·)->(∀x∈l,a<=x/\x<N)->l.length<=N - a
 | [],_,_,_,_=>Nat.zero_le _
 | x :: l,N,a,h,hb=>by
  obtain⟨c,d⟩:=List.pairwise_cons.1 h;have:=qm5 l N (x+1) d (fun y b=>⟨c y b,(hb y (by simp[b])).2⟩);have:=hb x (by simp);rw[List.length_cons];omega
theorem qe3{S:Sp}{L:List It}(h:Sor L)(k:∀x∈L,OkI S x)(o:S.rs.length<=40)(l:∀r∈S.rs,r.r.length<=20):L.length<=840:=by
 have d:∀x∈L,x.1<40/\x.2<=20:=fun x g=>by
  obtain⟨r,i,n⟩:=k x g;have:=(List.getElem?_eq_some_iff.1 i).1;have:=l r (List.mem_of_getElem? i);omega
 have:=qm5 (L.map fun x=>x.1 * 21+x.2) 840 0 (by
  rw[List.pairwise_map];refine List.Pairwise.imp_of_mem (fun {a b} j f c=>?_) h;have:=d a j;have:=d b f;unfold ltI at c
  omega) (fun y m=>by
  obtain⟨x,g,rfl⟩:=List.mem_map.1 m;have:=d x g
  omega)
 rw[List.length_map]at this;omega
def fndK (ks:List (List It)) (k:List It):Option Nat:=ks.findIdx? (fun x=>decide (x=k))
def au (S:Sp) (C:List It->List It) (n:Nat):Nat->Option (List (List It) × List Int)
 | 0=>some ([[(0,0)]],[])
 | t+1=>match au S C n t with
  | none=>none
  | some (ks,g) =>
   if n * ks.length<=t then some (ks,g) else
    let k:=nxt S (C ((ks[t / n]?).getD [])) (t % n)
    if k=[] then some (ks,g++[-1]) else
     match fndK ks k with
     | some j=>some (ks,g++[(j:Int)])
     | none=>if 120<=ks.length then none else some (ks++[k],g++[(ks.length:Int)])
section
variable {S:Sp} {C:List It->List It} {n t i y:Nat} {ks:List (List It)} {g:List Int} {K:List It}
theorem qjq(d:ks[i]?=some K)(a:y<n):(i * n+y) / n=i/\(i * n+y) % n=y/\¬n * ks.length<=i * n+y:=by
 have f:0<n:=by omega
 have b:=(List.getElem?_eq_some_iff.1 d).1;refine⟨?_,?_,?_⟩
 ·rw[Nat.mul_comm,Nat.mul_add_div f,Nat.div_eq_of_lt a];rfl
 ·rw[Nat.mul_comm,Nat.mul_add_mod,Nat.mod_eq_of_lt a]
 ·intro h;have c:n * (i+1)<=n * ks.length:=Nat.mul_le_mul_left n b;rw[Nat.mul_add,Nat.mul_comm n i]at c;omega
theorem qtf(h:au S C n (i * n+y)=some (ks,g))(a:ks[i]?=some K)(j:y<n)(f:nxt S (C K) y=[]):au S C n (i * n+y+1)=some (ks,g++[-1]):=by
 obtain⟨b,c,d⟩:=qjq a j;rw[au,h];simp only;rw[if_neg d,b,c,a];simp only[Option.getD_some];rw[if_pos f]
theorem quc(h:au S C n (i * n+y)=some (ks,g))(d:ks[i]?=some K)(t:y<n){k:List It}(r:nxt S (C K) y=k)(c:k≠[]){j:Nat}(p:ks[j]?=some k)(o:∀q:Nat,q<j->ks[q]?≠some k):au S C n (i * n+y+1)=some (ks,g++[(j:Int)]):=by
 obtain⟨f,l,m⟩:=qjq d t;rw[au,h];simp only;rw[if_neg m,f,l,d];simp only[Option.getD_some];rw[r,if_neg c]
 have e:fndK ks k=some j:=by
  obtain⟨a,b⟩:=List.getElem?_eq_some_iff.1 p;unfold fndK;rw[List.findIdx?_eq_some_iff_getElem];refine⟨a,by rw[b];simp,fun q s=>?_⟩
  have:=o q s;rw[List.getElem?_eq_getElem (by omega)]at this;simp only[decide_eq_true_eq]
  exact fun e=>this (by rw[e])
 rw[e]
theorem qlc{k:List It}(a:∀q:Nat,ks[q]?≠some k):fndK ks k=none:=by
 unfold fndK;rw[List.findIdx?_eq_none_iff];intro x c;obtain⟨q,b⟩:=List.mem_iff_getElem?.1 c;rw[decide_eq_false_iff_not]
 exact fun e=>a q (by rw[b,e])
theorem qud(h:au S C n (i * n+y)=some (ks,g))(b:ks[i]?=some K)(m:y<n){k:List It}(l:nxt S (C K) y=k)(a:k≠[])(j:∀q:Nat,ks[q]?≠some k)(o:ks.length<120):au S C n (i * n+y+1)=some (ks++[k],g++[(ks.length:Int)]):=by
 obtain⟨c,d,f⟩:=qjq b m;rw[au,h];simp only;rw[if_neg f,c,d,b];simp only[Option.getD_some];rw[l,if_neg a,qlc j];simp only;rw[if_neg (by omega)]
theorem qtg(h:au S C n (i * n+y)=some (ks,g))(b:ks[i]?=some K)(o:y<n){k:List It}(l:nxt S (C K) y=k)(a:k≠[])(j:∀q:Nat,ks[q]?≠some k)(m:120<=ks.length):au S C n (i * n+y+1)=none:=by
 obtain⟨c,d,f⟩:=qjq b o;rw[au,h];simp only;rw[if_neg f,c,d,b];simp only[Option.getD_some];rw[l,if_neg a,qlc j];simp only;rw[if_pos m]
def Ovr9 (S:Sp) (n:Nat):Prop:=∀C,CloF S C->∃t,au S C n t=none
structure AuP (S:Sp) (C:List It->List It) (n t:Nat) (ks:List (List It)) (g:List Int):Prop where
 lg:g.length<=t
 eq:t<=n * ks.length->g.length=t
 l1:1<=ks.length/\ks.length<=120
 k0:ks[0]?=some [(0,0)]
 kk:∀(j:Nat) (k:List It),0<j->ks[j]?=some k->∃u,u<t/\g[u]?=some (j:Int)
 gg:∀(u:Nat) (x:Int),g[u]?=some x->0<n/\∃K,ks[u / n]?=some K/\((x=-1/\nxt S (C K) (u % n)=[])\/∃j:Nat,x=(j:Int)/\ks[j]?=some (nxt S (C K) (u % n))/\nxt S (C K) (u % n)≠[])
 nd:∀(i j:Nat) (k:List It),ks[i]?=some k->ks[j]?=some k->i=j
theorem qld(S:Sp)(C:List It->List It)(n:Nat):∀(t:Nat) (d:List (List It)) (g:List Int),au S C n t=some (d,g)->AuP S C n t d g
 | 0,d,g,h=>by
  rw[au]at h
  injection h with h
  injection h with l c
  subst l c;refine⟨Nat.le_refl _,fun _=>rfl,⟨by decide,by decide⟩,rfl,fun j k s F=>?_,fun u x Q=>?_,fun i j k l c=>?_⟩
  ·cases j with
   | zero=>omega
   | succ j=>simp at F
  ·simp at Q
  ·have a:=(List.getElem?_eq_some_iff.1 l).1;have b:=(List.getElem?_eq_some_iff.1 c).1;simp at a b;omega
 | t+1,ks',g',h=>by
  rw[au]at h
  cases O:au S C n t with
  | none=>rw[O]at h;cases h
  | some p =>
   obtain⟨d,g⟩:=p;have f:=qld S C n t d g O;rw[O]at h;simp only at h
   by_cases hd:n * d.length<=t
   ·rw[if_pos hd]at h
    injection h with h
    injection h with l c
    subst l c;exact⟨by have:=f.lg;omega,fun e=>by omega,f.l1,f.k0,fun j k s F=>by obtain⟨u,l,c⟩:=f.kk j k s F;exact⟨u,by omega,c⟩,f.gg,f.nd⟩
   ·rw[if_neg hd]at h;have N:0<n:=Nat.pos_of_ne_zero (fun e=>by subst e;rw[Nat.zero_mul]at hd;exact hd (Nat.zero_le _))
    have V:t / n<d.length:=by
     rw[Nat.div_lt_iff_lt_mul N,Nat.mul_comm];omega
    have G:=f.eq (by omega)
    obtain⟨K,R⟩:∃K,d[t / n]?=some K:=⟨_,List.getElem?_eq_getElem V⟩
    rw[R]at h;simp only[Option.getD_some]at h;generalize F:nxt S (C K) (t % n)=k at h
    have A:∀(x:Int) (y:List (List It)),(∀(j:Nat) (z:List It),d[j]?=some z->y[j]?=some z)->((x=-1/\k=[])\/∃j:Nat,x=(j:Int)/\y[j]?=some k/\k≠[])->∀(u:Nat) (J:Int),(g++[x])[u]?=some J->0<n/\∃K,y[u / n]?=some K/\((J=-1/\nxt S (C K) (u % n)=[])\/∃j:Nat,J=(j:Int)/\y[j]?=some (nxt S (C K) (u % n))/\nxt S (C K) (u % n)≠[]):=fun x y r Q u J D=>by
     rcases Nat.lt_or_ge u g.length with hul | hul
     ·rw[List.getElem?_append_left hul]at D;obtain⟨-,U,l,c⟩:=f.gg u J D;refine⟨N,U,r _ _ l,?_⟩
      rcases c with c | ⟨j,c,h3,h4⟩
      ·exact .inl c
      ·exact .inr ⟨j,c,r _ _ h3,h4⟩
     ·rw[List.getElem?_append_right hul]at D
      have P:u=t:=by
       have:=(List.getElem?_eq_some_iff.1 D).1;simp at this;omega
      subst P;rw[G,Nat.sub_self]at D;simp at D;subst D;refine⟨N,K,r _ _ R,?_⟩;rw[F];exact Q
    have B:∀(x:Int) (j:Nat) (z:List It),0<j->d[j]?=some z->∃u,u<t+1/\(g++[x])[u]?=some (j:Int):=fun x j z s o=>by
     obtain⟨u,l,c⟩:=f.kk j z s o;exact⟨u,by omega,by rw[List.getElem?_append_left (List.getElem?_eq_some_iff.1 c).1];exact c⟩
    by_cases v:k=[]
    ·rw[if_pos v]at h
     injection h with h
     injection h with l c
     subst l c;exact⟨by simp;have:=f.lg;omega,fun _=>by simp;omega,f.l1,f.k0,B _,A _ _ (fun _ _ h=>h) (.inl ⟨rfl,v⟩),f.nd⟩
    ·rw[if_neg v]at h
     cases L:fndK d k with
     | some j =>
      rw[L]at h;simp only at h
      injection h with h
      injection h with l c
      subst l c;obtain⟨M,E,-⟩:=List.findIdx?_eq_some_iff_getElem.1 L
      have s:d[j]?=some k:=by
       rw[List.getElem?_eq_getElem M];rw[decide_eq_true_eq]at E;rw[E]
      exact⟨by simp;have:=f.lg;omega,fun _=>by simp;omega,f.l1,f.k0,B _,A _ _ (fun _ _ h=>h) (.inr ⟨j,rfl,s,v⟩),f.nd⟩
     | none =>
      rw[L]at h;simp only at h
      by_cases T:120<=d.length
      ·rw[if_pos T]at h;cases h
      ·rw[if_neg T]at h
       injection h with h
       injection h with l c
       subst l c
       have r:∀(j:Nat) (z:List It),d[j]?=some z->(d++[k])[j]?=some z:=fun j z o=>by
        rw[List.getElem?_append_left (List.getElem?_eq_some_iff.1 o).1];exact o
       have H:(d++[k])[d.length]?=some k:=by rw[List.getElem?_append_right (Nat.le_refl _),Nat.sub_self];rfl
       have I:∀q:Nat,d[q]?≠some k:=fun q e=>by
        have:=List.findIdx?_eq_none_iff.1 L k (List.mem_of_getElem? e);simp at this
       have m:∀(j:Nat) (z:List It),(d++[k])[j]?=some z->d[j]?=some z\/(j=d.length/\z=k):=fun j z o=>by
        rcases Nat.lt_or_ge j d.length with s | s
        ·rw[List.getElem?_append_left s]at o;exact .inl o
        ·rw[List.getElem?_append_right s]at o;have:=(List.getElem?_eq_some_iff.1 o).1;simp at this
         have e:j=d.length:=by omega
         subst e;rw[Nat.sub_self]at o;simp at o;exact .inr ⟨rfl,o.symm⟩
       refine⟨by simp;have:=f.lg;omega,fun _=>by simp;omega,⟨by simp,by simp;omega⟩,r _ _ f.k0,fun j z s o=>?_,A _ _ r (.inr ⟨d.length,rfl,H,v⟩),fun i j z l c=>?_⟩
       ·rcases m j z o with e | ⟨rfl,rfl⟩
        ·exact B _ j z s e
        ·exact⟨t,by omega,by rw[List.getElem?_append_right (by omega),G,Nat.sub_self];rfl⟩
       ·rcases m i z l with e | ⟨rfl,rfl⟩ <;> rcases m j z c with e' | ⟨rfl,e'⟩
        ·exact f.nd i j z e e'
        ·subst e';exact absurd e (I i)
        ·exact absurd e' (I j)
        ·rfl
end
end Go.Proofs.YtbdogaaooeoccaaGreatDoor
