/- Texts that the proofs of the First statements stand on, part Own14. -/
import Derived.Deep.RegionHeld
import Derived.Test.YtngclmglmhiljaaGreatDoorOwn13
set_option maxHeartbeats 16000000
set_option maxRecDepth 100000
namespace Go.Proofs.YtngclmglmhiljaaGreatDoor
open Go.RowKit
def set4 (W:World) (b:Nat) (v0 v1 v2 v3:Value):World:=(((W.setCell ⟨b,0,none⟩ v0).setCell ⟨b,1,none⟩ v1).setCell ⟨b,2,none⟩ v2).setCell ⟨b,3,none⟩ v3
theorem qko {W:World} {b j T:Nat} {cs:Array Value} (v:Value) (h:W.heap[b]?=some (.cells cs T (0,0))):(W.setCell ⟨b,j,none⟩ v).heap[b]?=some (.cells (cs.setIfInBounds j v) T (0,0)):=by
 rw [setCell_eq_setRow W b j _ T (0,0) _ h]
 exact setRow_heap _ _ _ _ T _ h
theorem yf {w W:World} {b:Nat} (v0 v1 v2 v3:Value) (h:Below w.heap.size w W) (hb:w.heap.size<=b):Below w.heap.size w (set4 W b v0 v1 v2 v3) :=
 (((h.setCell (p:=⟨b,0,none⟩) hb _).setCell (p:=⟨b,1,none⟩) hb _).setCell (p:=⟨b,2,none⟩) hb _).setCell (p:=⟨b,3,none⟩) hb _
theorem j1 {W:World} {b T:Nat} {a0 a1 a2 a3:Value} (h:W.heap[b]?=some (.cells #[a0,a1,a2,a3] T (0,0))) :
  W.cell? ⟨b,0,none⟩=some a0/\W.cell? ⟨b,1,none⟩=some a1/\W.cell? ⟨b,2,none⟩=some a2/\W.cell? ⟨b,3,none⟩=some a3/\W.frozen? ⟨b,0,none⟩=false/\W.frozen? ⟨b,1,none⟩=false/\W.frozen? ⟨b,2,none⟩=false/\W.frozen? ⟨b,3,none⟩=false :=
 ⟨by rw [qe h];rfl,by rw [qe h];rfl,by rw [qe h];rfl,by rw [qe h];rfl,qi h 0,qi h 1,qi h 2,qi h 3⟩
structure GT (W1 wr:World) (gb:Nat) (ta:Option Addr) (tc:Nat) (ts:List Tk) (st:ByteArray) (ex:Int) (v:Value):Prop where
 box:wr.heap[gb]?=some (.cells #[.slice ta ts.length tc,.string st,.int .i64 ex,v] 25 (0,0))
 tok:wr.ownsRow W1.heap.size 58 3 (.slice ta ts.length tc) ts.length (tokC ts)
 bel:Below W1.heap.size W1 wr
 new:W1.heap.size<=gb
theorem GT.step {W1 wr wr':World} {gb tc:Nat} {ta:Option Addr} {ts:List Tk} {st:ByteArray} {ex:Int} {v:Value} (g:GT W1 wr gb ta tc ts st ex v) (hb:Below wr.heap.size wr wr'):GT W1 wr' gb ta tc ts st ex v :=
 ⟨qf hb g.box,qh g.tok (fun i hi=>hb.block i (World.ownsRow.lt g.tok i hi).2),qd g.bel hb,g.new⟩
theorem GT.add {W1 W:World} {gb tc:Nat} {ta:Option Addr} {ts:List Tk} {st:ByteArray} {ex:Int} {v:Value} (g:GT W1 W gb ta tc ts st ex v) (hn:ts.length<=1000) (t:Tk) :
  ∃ ao n c w',(Builtin.append_ #[22,22] 22 #[.slice ta ts.length tc,.slice (some ⟨W.heap.size,0,none⟩) 1 1]).run Tryz.prog (W.alloc (.cells #[.string t.n,.int .i64 t.l,.int .i64 t.a] 58))=.ok (.slice ao n c) w'/\n=ts.length+1/\w'.heap[gb]?=some (.cells #[.slice ta ts.length tc,.string st,.int .i64 ex,v] 25 (0,0)) /\
   GT W1 (w'.setCell ⟨gb,0,none⟩ (.slice ao n c)) gb ao c (ts++[t]) st ex v:=by
 obtain ⟨i0,hi,hz0,hz1,hz2⟩:=info_parts Tryz.info58
 have g1:=g.step (qb W (.cells #[.string t.n,.int .i64 t.l,.int .i64 t.a] 58))
 have hnews:∀ j u,(tokC [t])[j]?=some u->(W.alloc (.cells #[.string t.n,.int .i64 t.l,.int .i64 t.a] 58)).cell? ((⟨W.heap.size,0,none⟩:Addr).add j)=some u:=by
  intro j u hu
  rw [Addr.add_lit,Nat.zero_add,World.cell?_alloc_mark,<-hu]
  exact List.getElem?_toArray (xs:=tokC [t]) (i:=j)
 obtain ⟨v',w',hr,h2,h3,-⟩:=run_append_own (P:=Tryz.prog) (W.alloc (.cells #[.string t.n,.int .i64 t.l,.int .i64 t.a] 58)) W1.heap.size 22 22 58 i0 _ 3 32 Tryz.underlying22 hi hz0 hz1 hz2 rfl (by decide) _ ts.length _ g1.tok ⟨W.heap.size,0,none⟩ 1 1 (tokC [t]) rfl hnews
  (fun u hu=>by simp [tokC] at hu;rcases hu with rfl | rfl | rfl <;> rfl) (by unfold maxLen;omega) (by omega) (by have:=g1.bel.size;exact this)
 obtain ⟨ao,c,rfl,-⟩:=zh h2
 have hbox:w'.heap[gb]?=some (.cells #[.slice ta ts.length tc,.string st,.int .i64 ex,v] 25 (0,0)):=by
  rw [h3.block gb (Array.getElem?_eq_some_iff.1 g1.box).1 (fun e=>qr ⟨_,g1.box⟩ (qx g1.tok e.symm) (by decide) rfl)]
  exact g1.box
 refine ⟨ao,_,c,w',hr,rfl,hbox,?_,?_,?_,g.new⟩
 ·rw [setCell_eq_setRow w' gb 0 _ 25 (0,0) _ hbox]
  have e:(#[.slice ta ts.length tc,.string st,.int .i64 ex,v]:Array Value).setIfInBounds 0 (.slice ao (ts.length+1) c)=#[.slice ao (ts++[t]).length c,.string st,.int .i64 ex,v]:=by simp
  rw [e]
  exact setRow_heap _ _ _ _ 25 _ hbox
 ·have ho:w'.ownsRow W1.heap.size 58 3 (.slice ao (ts++[t]).length c) (ts++[t]).length (tokC (ts++[t])):=by
   rw [qe1,List.length_append]
   exact h2
  exact qh ho (fun i hi=>Below.heap_setCell _ _ _ _ (qr (qx ho hi) ⟨_,hbox⟩ (by decide)))
 ·exact (g1.bel.grown h3 (g1.bel.size) (fun k hk=>(World.ownsRow.lt g1.tok k hk).1)).setCell (p:=⟨gb,0,none⟩) g.new _
def gmOf (S:St):Gm:=⟨S.ts,S.st,S.ex,S.rs⟩
theorem qkp (w W:World) (rb:Nat) (h:RHd) (S:St) (qs:List (Ru × Option Addr × Nat)) (r:RD w W rb h S qs) :
  Calls Tryz.prog 110 #[.pointer (some ⟨rb,0,none⟩)] W fun e W'=>∃ h',e=.returned (gv h' (gmOf S))/\OwnG W' w.heap.size h' (gmOf S) qs/\Below W.heap.size W W':=by
 have hb1:(W.alloc (.cells #[.slice none 0 0,.string ⟨#[]⟩,.int .i64 0,.slice none 0 0] 25)).heap[W.heap.size]?=some (.cells #[.slice none 0 0,.string ⟨#[]⟩,.int .i64 0,.slice none 0 0] 25 (0,0)):=heap_alloc_new _ _
 have HR:Hid (RD w (W.alloc (.cells #[.slice none 0 0,.string ⟨#[]⟩,.int .i64 0,.slice none 0 0] 25)) rb h S qs):=r.step (qb _ _)
 have HB1:Hid (Below W.heap.size W (W.alloc (.cells #[.slice none 0 0,.string ⟨#[]⟩,.int .i64 0,.slice none 0 0] 25))):=qb _ _
 obtain ⟨hle,hmx⟩:=r.tlen
 have hnn:S.ts.length<=40:=r.ok.nt
 clear r
 go_enter Tryz.func110,Tryz.ntmps110
 go_upto_region 1 with fail
 generalize W.alloc (.cells #[.slice none 0 0,.string ⟨#[]⟩,.int .i64 0,.slice none 0 0] 25)=W1 at HR hb1 HB1 ⊢
 obtain ⟨nb,hnb⟩:∃ nb,nb=W.heap.size:=⟨_,rfl⟩
 rw [<-hnb] at hb1 ⊢
 have HNB:Hid (W.heap.size<=nb/\nb<W1.heap.size):=⟨Nat.le_of_eq hnb.symm,(Array.getElem?_eq_some_iff.1 hb1).1⟩
 have HBX:Hid (W1.heap[nb]?=some (.cells #[.slice none 0 0,.string ⟨#[]⟩,.int .i64 0,.slice none 0 0] 25 (0,0))):=hb1
 clear hb1 hnb
 have c3:W1.cell? ⟨rb,3,none⟩=some (.string S.st):=by rw [qe HR.out.box];rfl
 have c5:W1.cell? ⟨rb,5,none⟩=some (.int .i64 S.ex):=by rw [qe HR.out.box];rfl
 have c6:W1.cell? ⟨rb,6,none⟩=some (.slice h.ra S.rs.length h.rc):=by rw [qe HR.out.box];rfl
 have HG0:Hid (GT W1 (W1.alloc (.cells #[.slice none 0 0,.string S.st,.int .i64 S.ex,.slice h.ra S.rs.length h.rc] 25)).drew W1.heap.size none 0 [] S.st S.ex (.slice h.ra S.rs.length h.rc)):=GT.step (⟨heap_alloc_new _ _,World.ownsRow_nil _ _ _ _,qb _ _,Nat.le_refl _⟩:GT W1 (W1.alloc (.cells #[.slice none 0 0,.string S.st,.int .i64 S.ex,.slice h.ra S.rs.length h.rc] 25)) W1.heap.size none 0 [] S.st S.ex (.slice h.ra S.rs.length h.rc)) (qk _)
 go_cut [3] (fun s3 wd=>s3=.pointer (some ⟨W1.heap.size,0,none⟩)/\Hid (GT W1 wd W1.heap.size none 0 [] S.st S.ex (.slice h.ra S.rs.length h.rc)))
 case first =>
  go_region_held (fun w'=>w'.cell? ⟨rb,3,none⟩=some (.string S.st)/\w'.cell? ⟨rb,5,none⟩=some (.int .i64 S.ex)/\w'.cell? ⟨rb,6,none⟩=some (.slice h.ra S.rs.length h.rc)) (go_keep) (fail)
  all_goals
   go_wp2_with fail
   go_meet
   exact ⟨rfl,HG0⟩
 case rest =>
  obtain ⟨rfl,HG⟩:=hcut
  obtain ⟨W2,hW2⟩:∃ W2,W2=wc:=⟨_,rfl⟩
  subst wc
  clear c3 c5 c6 HG0
  obtain ⟨gb,hgb⟩:∃ gb,gb=W1.heap.size:=⟨_,rfl⟩
  rw [<-hgb] at HG ⊢
  have HNG:Hid (nb<gb):=by rw [hgb];exact HNB.out.2
  clear hgb
  have c1:W2.cell? ⟨rb,1,none⟩=some (.slice h.ta S.ts.length h.tc):=by rw [qe (HR.out.step HG.out.bel).box];rfl
  obtain ⟨wb,wo,wl,ta,tc,ra,rc⟩:=h
  simp only at hle hmx c1 HG
  generalize en:S.ts.length=n at *
  have HN:Hid (S.ts.length=n):=en
  clear en
  go_wp2_with fail
  go_loopg [24] n (fun kx s24 wr=>∃ k:Nat,s24=.int .i64 k/\k<=n/\n - k<=kx/\Hid (∃ qa qc,GT W1 wr gb qa qc (S.ts.take k) S.st S.ex (.slice ra S.rs.length rc)))
  case atStart=>exact ⟨0,rfl,Nat.zero_le _,by omega,(⟨none,0,HG.out⟩:∃ qa qc,GT W1 W2 gb qa qc (S.ts.take 0) S.st S.ex (.slice ra S.rs.length rc))⟩
  case round =>
   obtain ⟨k,rfl,hk,hg,J⟩:=hrel
   clear HG
   obtain ⟨qa,qc,hG⟩:=J.out
   have elk:(S.ts.take k).length=k:=by rw [List.length_take,HN.out];omega
   by_cases hlt:k<n
   ·have hlt':(k:Int)<(n:Int):=by omega
    obtain ⟨t,ht⟩:∃ t,S.ts[k]?=some t:=⟨S.ts[k]'(by rw [HN.out];exact hlt),List.getElem?_eq_getElem _⟩
    obtain ⟨tb,bb,hta,-,d0,d1,d2,d3,-⟩:=(HR.out.step hG.bel).tokAt ht
    simp only at hta
    subst hta
    obtain ⟨tn,tl,tA⟩:=t
    simp only at d0 d1 d2
    have hG1:=hG.step (qb wr (.cells #[.string tn,.int .i64 tl,.int .i64 tA,.bool bb] 153))
    have e0:wr.cell? ⟨gb,0,none⟩=some (.slice qa k qc):=by rw [qe hG.box,elk];rfl
    have e0':=qo e0 (.cells #[.string tn,.int .i64 tl,.int .i64 tA,.bool bb] 153)
    obtain ⟨ao,m,c,w5,hrun,hm,hbox,hG2⟩:=hG1.add (by rw [elk];omega) ⟨tn,tl,tA⟩
    simp only [elk,qt] at hrun hm
    have f0:w5.cell? ⟨gb,0,none⟩=some (.slice qa k qc):=by rw [qe hbox,elk];rfl
    have z0:w5.frozen? ⟨gb,0,none⟩=false:=qi hbox 0
    have HF:Hid (∃ qa qc,GT W1 (w5.setCell ⟨gb,0,none⟩ (.slice ao m c)) gb qa qc (S.ts.take (k+1)) S.st S.ex (.slice ra S.rs.length rc)):=by
     have e:S.ts.take (k+1)=S.ts.take k++[⟨tn,tl,tA⟩]:=zn ht
     rw [e]
     exact ⟨_,_,hG2⟩
    clear hG hG1 hG2 hbox hm J elk ht
    go_wp2_with (at_builtin;refine Lib.wpList_append_run _ rfl _ _ _ _ rfl _ _ rfl rfl _ _ hrun ?_)
    go_roundg (n - (k+1))
    case measure=>omega
    case rel=>exact ⟨k+1,by simp,by omega,Nat.le_refl _,HF⟩
   ·have hlt':¬ (k:Int)<(n:Int):=by omega
    have htk:S.ts.take k=S.ts:=List.take_of_length_le (by rw [HN.out];omega)
    rw [htk] at hG
    have t0:=hG.bel.block nb HNB.out.2
    rw [HBX.out] at t0
    obtain ⟨y0,y1,y2,y3,y4,y5,y6,y7⟩:=j1 t0
    obtain ⟨g0,g1,g2,g3,-⟩:=j1 hG.box
    have HG3:Hid (GT W1 wr gb qa qc S.ts S.st S.ex (.slice ra S.rs.length rc)):=hG
    rw [HN.out] at g0
    have HFN:Hid (OwnG (set4 wr nb (.slice qa n qc) (.string S.st) (.int .i64 S.ex) (.slice ra S.rs.length rc)) w.heap.size ⟨qa,qc,ra,rc⟩ (gmOf S) qs/\Below W.heap.size W (set4 wr nb (.slice qa n qc) (.string S.st) (.int .i64 S.ex) (.slice ra S.rs.length rc))):=by
     have hr:=HR.out.step hG.bel
     have hw1:w.heap.size<=W1.heap.size:=HR.out.bel.size
     have hl28:Loc wr nb 25:=⟨_,t0⟩
     have far:∀ {V:World} {E k n:Nat} {v:Value} {cs:List Value} {j:Nat} {u:Value},Loc V nb 25->E≠25->V.ownsRow w.heap.size E k v n cs->(V.setCell ⟨nb,j,none⟩ u).ownsRow w.heap.size E k v n cs:=by
      intro V E k n v cs j u hl hE ho
      exact qh ho (fun i hi=>Below.heap_setCell _ _ _ _ (qr (qx ho hi) hl hE))
     have far4:∀ {E k n':Nat} {v:Value} {cs:List Value},E≠25->wr.ownsRow w.heap.size E k v n' cs->(set4 wr nb (.slice qa n qc) (.string S.st) (.int .i64 S.ex) (.slice ra S.rs.length rc)).ownsRow w.heap.size E k v n' cs:=by
      intro E k n' v cs hE ho
      exact far (((hl28.set _ _ _).set _ _ _).set _ _ _) hE (far ((hl28.set _ _ _).set _ _ _) hE (far (hl28.set _ _ _) hE (far hl28 hE ho)))
     refine ⟨⟨far4 (by decide) (zd hG.tok hw1),far4 (by decide) hr.rul,hr.map,fun q hq=>far4 (by decide) (hr.row q hq)⟩,?_⟩
     exact yf _ _ _ _ (qd HB1.out hG.bel) HNB.out.1
    unfold set4 at HFN
    clear hG J t0 elk htk
    have HGM:Hid (gv ⟨qa,qc,ra,rc⟩ (gmOf S)=.agg #[.slice qa n qc,.string S.st,.int .i64 S.ex,.slice ra S.rs.length rc]):=by
     show _=_
     unfold gv gmOf
     simp only [HN.out]
    generalize S.rs.length=rn at *
    generalize S.st=st at *
    generalize S.ex=ex at *
    go_wp2_with fail
    refine bodyPost_ret (v:=.agg #[.slice qa n qc,.string st,.int .i64 ex,.slice ra rn rc]) (by simp [results,Tryz.results110,go_sem, *]) rfl ?_
    exact ⟨⟨qa,qc,ra,rc⟩,by rw [HGM.out],HFN.out.1,HFN.out.2⟩
def st0 (ws:List Wd):St:=⟨ws,[],[],0,⟨#[]⟩,false,0,[]⟩
def kd (s:ByteArray):List Wd:=(scan (by8 s)).1.map (wdOf s)
def jr (s:ByteArray):Except Flt St :=
 if 2000<s.size then .error (6,0) else
 if (scan (by8 s)).2<0 then vh (st0 (kd s)) else
 match vh (st0 (kd (s.extract 0 (scan (by8 s)).2.toNat))) with
 | .error e=>.error e
 | .ok _=>.error (1,(scan (by8 s)).2)
theorem qik (s:ByteArray):∀ ws:List (Nat × Nat × Nat),jw s ws=wdC (ws.map (wdOf s))
 | []=>rfl
 | x :: r=>by
  have e:jw s (x :: r)=qae s x++jw s r:=rfl
  rw [e,qik s r]
  rfl
theorem qfa {l:List UInt8}:∀ (f i:Nat) (a:List (Nat × Nat × Nat)),i<=l.length->l.length - i<f->(kr f l i a).2=-1\/∃ m:Nat,(kr f l i a).2=(m:Int)
 | 0,_,_,_,h=>by omega
 | f+1,i,a,h,hf=>by
  by_cases hi:i<l.length
  ·by_cases hK:(wordP l i).1=0
   ·rw [qby hi hK];exact .inr ⟨i,rfl⟩
   ·rw [y8 hi hK]
    have h2:=yg hi
    have h3:=qbs (l:=l) (i:=(wordP l i).2) h2.2.1
    exact qfa f _ _ h3.2 (by have:=h2.2.2.1 hK;omega)
  ·rw [qbx (by omega)];exact .inl rfl
theorem qne (l:List UInt8):(scan l).2=-1\/∃ m:Nat,(scan l).2=(m:Int) :=
 qfa _ _ _ (qbs (Nat.zero_le _)).2 (by omega)
theorem qqm (s:ByteArray) (m:Nat):by8 (s.extract 0 m)=(by8 s).take m:=by
 rw [z9]
 unfold part
 rw [List.drop_zero,Nat.sub_zero]
theorem qlr {s:ByteArray} {m:Nat} (h:(scan (by8 s)).2=(m:Int)):m<s.size/\(scan (by8 (s.extract 0 m))).2=-1:=by
 have h1:=qot h
 rw [qqm s m]
 exact ⟨by rw [<-qy];exact h1.1,h1.2⟩
theorem RD.init {w:World} {base:Nat} {s:ByteArray} {v:Value} (h:IsW w base s v (scan (by8 s)).1) (hf:(scan (by8 s)).2=-1) :
  ∃ hd:RHd,v=.slice (some ⟨hd.wb,hd.wo,none⟩) (st0 (kd s)).ws.length hd.wc/\hd.ta=none/\hd.tc=0/\hd.ra=none/\hd.rc=0 /\
   RD w (w.alloc (.cells (rdC hd (st0 (kd s))) 139)) w.heap.size hd (st0 (kd s)) []:=by
 have he:Ends (kd s):=qor hf
 have hp:=he.pos
 have hl:(kd s).length=(scan (by8 s)).1.length:=List.length_map _
 unfold IsW at h
 obtain ⟨g,cap,rfl⟩:∃ g cap,v=.slice (some ⟨g,0,none⟩) (scan (by8 s)).1.length cap:=by
  rcases h.2 with ⟨_,h0⟩ | ⟨g,cap,cur,hv,_⟩
  ·omega
  ·exact ⟨g,cap,hv⟩
 refine ⟨⟨g,0,cap,none,0,none,0⟩,by rw [<-hl];rfl,rfl,rfl,rfl,rfl,?_⟩
 have hr:=Row.of_own h
 rw [qik,<-hl] at hr
 exact ⟨heap_alloc_new _ _,hr,World.ownsRow_nil _ _ _ _,World.ownsRow_nil _ _ _ _,rfl,fun q hq=>(by cases hq),qb _ _,Nat.le_refl _,⟨he,Nat.zero_le _,rfl,Nat.zero_le _,Nat.zero_le _⟩⟩
theorem qgz:∀ {f:Nat} {S:St} {g:Flt},x8 f S=.error g->g.1≠0
 | 0,S,g,h=>by simp [x8] at h
 | f+1,S,g,h=>by
  unfold x8 at h
  split at h
  ·cases h
  ·split at h
   ·rename_i e he
    cases h
    exact qig he
   ·exact qgz h
theorem qg0:∀ {f:Nat} {S:St} {g:Flt},x9 f S=.error g->g.1≠0
 | 0,S,g,h=>by simp [x9] at h
 | f+1,S,g,h=>by
  unfold x9 at h
  split at h
  ·cases h
  ·split at h
   ·rename_i e he
    cases h
    exact qgy he
   ·exact qg0 h
theorem qil {S:St} {g:Flt} (h:vh S=.error g):g.1≠0:=by
 unfold vh at h
 split at h
 ·rename_i e he
  cases h
  exact qgz he
 ·exact qg0 h
def qa7 (bad:Int) (R:Except Flt St):Except Flt St:=if bad<0 then R else match R with | .error e=>.error e | .ok _=>.error (1,bad)
def qrv (s:ByteArray) (w:World) (e:Ending) (w':World):Prop :=
 Below w.heap.size w w' /\
 match jr s with
 | .error f=>e=.returned (.tuple #[gv ⟨none,0,none,0⟩ ⟨[],⟨#[]⟩,0,[]⟩,fv f])
 | .ok S=>∃ h qs,e=.returned (.tuple #[gv h (gmOf S),fv (0,0)])/\OwnG w' w.heap.size h (gmOf S) qs
theorem OwnG.off {w:World} {base:Nat} {h:Hd} {G:Gm} {qs:List (Ru × Option Addr × Nat)} {b j T:Nat} {u:Value} (o:OwnG w base h G qs) (hb:Loc w b T) (h1:T≠58/\T≠55/\T≠9):OwnG (w.setCell ⟨b,j,none⟩ u) base h G qs:=by
 have apart:∀ {E k n:Nat} {v:Value} {cs:List Value},w.ownsRow base E k v n cs->E≠T->(w.setCell ⟨b,j,none⟩ u).ownsRow base E k v n cs:=by
  intro E k n v cs ho hE
  exact qh ho (fun i hi=>Below.heap_setCell _ _ _ _ (qr (qx ho hi) hb hE))
 exact ⟨apart o.tok (Ne.symm h1.1),apart o.rul (Ne.symm h1.2.1),o.map,fun q hq=>apart (o.row q hq) (Ne.symm h1.2.2)⟩
theorem qg1 (s:ByteArray) (w:World) (hs:s.size<=1048576):Calls Tryz.prog 100 #[.string s] w fun e w'=>qrv s w e w':=by
 have hs1:(s.size:Int)<=1048576:=by omega
 have hb2:((w.alloc (.cells #[.slice none 0 0,.string ⟨#[]⟩,.int .i64 0,.slice none 0 0] 25)).alloc (.cells #[.int .i64 0,.int .i64 0] 125)).heap[w.heap.size+1]?=some (.cells #[.int .i64 0,.int .i64 0] 125 (0,0)):=by
  have:=heap_alloc_new (w.alloc (.cells #[.slice none 0 0,.string ⟨#[]⟩,.int .i64 0,.slice none 0 0] 25)) (.cells #[.int .i64 0,.int .i64 0] 125)
  rwa [qt] at this
 have hb1:((w.alloc (.cells #[.slice none 0 0,.string ⟨#[]⟩,.int .i64 0,.slice none 0 0] 25)).alloc (.cells #[.int .i64 0,.int .i64 0] 125)).heap[w.heap.size]?=some (.cells #[.slice none 0 0,.string ⟨#[]⟩,.int .i64 0,.slice none 0 0] 25 (0,0)):=qf (qb _ _) (heap_alloc_new _ _)
 have HB:Hid (Below w.heap.size w ((w.alloc (.cells #[.slice none 0 0,.string ⟨#[]⟩,.int .i64 0,.slice none 0 0] 25)).alloc (.cells #[.int .i64 0,.int .i64 0] 125))):=qd (qb _ _) (qb _ _)
 go_enter Tryz.func100,Tryz.ntmps100
 go_upto_region 1 with fail
 generalize (w.alloc (.cells #[.slice none 0 0,.string ⟨#[]⟩,.int .i64 0,.slice none 0 0] 25)).alloc (.cells #[.int .i64 0,.int .i64 0] 125)=W1 at hb1 hb2 HB ⊢
 obtain ⟨gb,hgb⟩:∃ gb,gb=w.heap.size:=⟨_,rfl⟩
 obtain ⟨nb,hnb⟩:∃ nb,nb=w.heap.size+1:=⟨_,rfl⟩
 rw [<-hnb] at hb2 ⊢
 rw [<-hgb] at hb1 ⊢
 have HNB:Hid (w.heap.size<=gb/\w.heap.size<=nb/\gb≠nb):=⟨by omega,by omega,by omega⟩
 have hne:gb≠nb:=by omega
 have hne2:nb≠gb:=by omega
 clear hgb hnb
 by_cases hl:2000<s.size
 ·have hl':(s.size:Int) > 2000:=by omega
  obtain ⟨y0,y1,y2,y3,y4,y5,y6,y7⟩:=j1 hb1
  obtain ⟨q3,q4,z3,z4⟩:=zg hb2
  go_wp2_with fail
  refine bodyPost_ret (v:=.tuple #[.agg #[.slice none 0 0,.string ⟨#[]⟩,.int .i64 0,.slice none 0 0],.agg #[.int .i64 6,.int .i64 0]]) (by simp [results,Tryz.results100,go_sem, *]) rfl ?_
  refine ⟨?_,?_⟩
  ·exact ((yf _ _ _ _ HB.out HNB.out.1).setCell (p:=⟨nb,0,none⟩) HNB.out.2.1 _).setCell (p:=⟨nb,1,none⟩) HNB.out.2.1 _
  ·have e:jr s=.error (6,0):=by unfold jr;rw [if_pos hl]
   rw [e]
   rfl
 ·have hl':¬ (s.size:Int) > 2000:=by omega
  have HSC:Hid (Calls Tryz.prog 108 #[.string s] W1 fun e w'=>qap s W1 w' e):=qbm s W1 hs
  have HBX:Hid (W1.heap[gb]?=some (.cells #[.slice none 0 0,.string ⟨#[]⟩,.int .i64 0,.slice none 0 0] 25 (0,0))/\W1.heap[nb]?=some (.cells #[.int .i64 0,.int .i64 0] 125 (0,0))):=⟨hb1,hb2⟩
  have HL:Hid (¬ 2000<s.size):=hl
  clear hb1 hb2 hl
  go_wp2_with fail
  refine HSC.out.mono ?_
  rintro e V ⟨v,rfl,hW,hB⟩
  have HV:Hid (IsW V W1.heap.size s v (scan (by8 s)).1/\Below W1.heap.size W1 V):=⟨hW,hB⟩
  clear hW hB HSC
  generalize hbad:(scan (by8 s)).2=bad
  have HBAD:Hid ((scan (by8 s)).2=bad):=hbad
  clear hbad
  rcases qne (by8 s) with hf | ⟨m,hf⟩
  ·have hbd:bad=-1:=by rw [<-HBAD.out];exact hf
   have HF:Hid (∃ t base,IsW V base t v (scan (by8 t)).1/\(scan (by8 t)).2=-1/\Below W1.heap.size W1 V/\jr s=qa7 bad (vh (st0 (kd t)))):=by
    refine ⟨s,_,HV.out.1,hf,HV.out.2,?_⟩
    unfold jr qa7
    rw [if_neg HL.out,if_pos (by rw [hf];decide),if_pos (by omega)]
   have hge:¬ (bad ≥ 0):=by omega
   have hlt0:bad<0:=by omega
   clear hf hbd HV HBAD HL
   go_upto_region 6 with fail
   obtain ⟨t,base,hW,hsf,hBt,hrs⟩:=HF.out
   obtain ⟨⟨wb,wo,wl,ta,tc,ra,rc⟩,rfl,h1,h2,h3,h4,hrd⟩:=RD.init hW hsf
   simp only at h1 h2 h3 h4
   subst h1 h2 h3 h4
   obtain ⟨R,hR⟩:∃ R,vh (st0 (kd t))=R:=⟨_,rfl⟩
   have HTX:Hid (Calls Tryz.prog 109 #[.pointer (some ⟨V.heap.size,0,none⟩)] (V.alloc (.cells #[.slice (some ⟨wb,wo,none⟩) (st0 (kd t)).ws.length wl,.slice none 0 0,.int .i64 0,.string ⟨#[]⟩,.bool false,.int .i64 0,.slice none 0 0] 139)) fun e W'=>DidQ V (V.alloc (.cells #[.slice (some ⟨wb,wo,none⟩) (st0 (kd t)).ws.length wl,.slice none 0 0,.int .i64 0,.string ⟨#[]⟩,.bool false,.int .i64 0,.slice none 0 0] 139)) V.heap.size R e W'):=by rw [<-hR];exact qep _ _ _ _ _ _ hrd
   have HRS:Hid (jr s=qa7 bad R):=by rw [<-hR];exact hrs
   have HKD:Hid (∀ g,R=.error g->g.1≠0):=fun g hg=>qil (hR.trans hg)
   have hx:=qb V (.cells #[.slice (some ⟨wb,wo,none⟩) (st0 (kd t)).ws.length wl,.slice none 0 0,.int .i64 0,.string ⟨#[]⟩,.bool false,.int .i64 0,.slice none 0 0] 139)
   have HBY:Hid (Below w.heap.size w V/\V.heap[gb]?=some (.cells #[.slice none 0 0,.string ⟨#[]⟩,.int .i64 0,.slice none 0 0] 25 (0,0))/\V.heap[nb]?=some (.cells #[.int .i64 0,.int .i64 0] 125 (0,0))):=⟨qd HB.out hBt,qf hBt HBX.out.1,qf hBt HBX.out.2⟩
   have HBZ:Hid ((V.alloc (.cells #[.slice (some ⟨wb,wo,none⟩) (st0 (kd t)).ws.length wl,.slice none 0 0,.int .i64 0,.string ⟨#[]⟩,.bool false,.int .i64 0,.slice none 0 0] 139)).heap[gb]?=some (.cells #[.slice none 0 0,.string ⟨#[]⟩,.int .i64 0,.slice none 0 0] 25 (0,0))/\(V.alloc (.cells #[.slice (some ⟨wb,wo,none⟩) (st0 (kd t)).ws.length wl,.slice none 0 0,.int .i64 0,.string ⟨#[]⟩,.bool false,.int .i64 0,.slice none 0 0] 139)).heap[nb]?=some (.cells #[.int .i64 0,.int .i64 0] 125 (0,0))):=⟨qf hx HBY.out.2.1,qf hx HBY.out.2.2⟩
   clear HF hW hsf hrs hrd hR hBt HBX HB hx
   go_upto_region 7 with fail
   generalize (st0 (kd t)).ws.length=wn at *
   generalize V.alloc (.cells #[.slice (some ⟨wb,wo,none⟩) wn wl,.slice none 0 0,.int .i64 0,.string ⟨#[]⟩,.bool false,.int .i64 0,.slice none 0 0] 139)=X0 at *
   go_wp2_with fail
   refine HTX.out.mono ?_
   rintro e X ⟨hd',S',qs',rfl,hrd',hk,hS⟩
   have HX:Hid (RD V X V.heap.size hd' S' qs'/\(∀ S1,R=.ok S1->S'=S1)/\X.heap[gb]?=some (.cells #[.slice none 0 0,.string ⟨#[]⟩,.int .i64 0,.slice none 0 0] 25 (0,0))/\X.heap[nb]?=some (.cells #[.int .i64 0,.int .i64 0] 125 (0,0))):=⟨hrd',hS,hk.loc _ _ _ HBZ.out.1 (by decide) (by decide) (by decide) (by decide),hk.loc _ _ _ HBZ.out.2 (by decide) (by decide) (by decide) (by decide)⟩
   clear hrd' hk hS HTX HBZ
   cases R with
   | error g =>
    obtain ⟨gk,ga⟩:=g
    have hk0:gk≠0:=HKD.out _ rfl
    have hk1:(gk == 0)=false:=by simpa using hk0
    have hk2:(gk != 0)=true:=by simpa using hk0
    have HE:Hid (jr s=.error (gk,ga)):=by
     show _=_
     rw [HRS.out]
     unfold qa7
     split <;> rfl
    rw [show fv (kf (.error (gk,ga):Except Flt St))=.agg #[.int .i64 gk,.int .i64 ga] from rfl]
    clear HRS HKD hk0
    have hx:=qb X (.cells #[.int .i64 gk,.int .i64 ga] 125)
    have b0:=heap_alloc_new X (.cells #[.int .i64 gk,.int .i64 ga] 125)
    have b1:=qf hx HX.out.2.2.1
    have b2:=qf hx HX.out.2.2.2
    obtain ⟨y0,y1,y2,y3,y4,y5,y6,y7⟩:=j1 b1
    obtain ⟨q3,q4,z3,z4⟩:=zg b2
    obtain ⟨p0,p1,p2,p3⟩:=zg b0
    have hn1:X.heap.size≠gb:=fun e=>by have:=(Array.getElem?_eq_some_iff.1 HX.out.2.2.1).1;omega
    have hn2:X.heap.size≠nb:=fun e=>by have:=(Array.getElem?_eq_some_iff.1 HX.out.2.2.2).1;omega
    clear hx b0 b1 b2
    have HBW:Hid (Below w.heap.size w (X.alloc (.cells #[.int .i64 gk,.int .i64 ga] 125))):=qd (qd HBY.out.1 HX.out.1.bel) (qb _ _)
    go_upto_region 11 with fail
    generalize X.alloc (.cells #[.int .i64 gk,.int .i64 ga] 125)=X1 at *
    generalize X.heap.size=fb at *
    clear HX HBY
    go_region
    go_wp2_with fail
    refine bodyPost_ret (v:=.tuple #[.agg #[.slice none 0 0,.string ⟨#[]⟩,.int .i64 0,.slice none 0 0],.agg #[.int .i64 gk,.int .i64 ga]]) (by simp [results,Tryz.results100,go_sem, *]) rfl ?_
    refine ⟨?_,by rw [HE.out];rfl⟩
    exact qd (((yf (.slice none 0 0) (.string ⟨#[]⟩) (.int .i64 0) (.slice none 0 0) HBW.out HNB.out.1).setCell (p:=⟨nb,0,none⟩) HNB.out.2.1 _).setCell (p:=⟨nb,1,none⟩) HNB.out.2.1 _) (qk _)
   | ok S1 =>
    have hS1:S'=S1:=HX.out.2.1 S1 rfl
    subst hS1
    have HE:Hid (jr s=.ok S'):=by
     show _=_
     rw [HRS.out]
     unfold qa7
     rw [if_pos hlt0]
    rw [show fv (kf (.ok S':Except Flt St))=.agg #[.int .i64 0,.int .i64 0] from rfl]
    have hx:=qb X (.cells #[.int .i64 0,.int .i64 0] 125)
    obtain ⟨p0,p1,p2,p3⟩:=zg (heap_alloc_new X (.cells #[.int .i64 0,.int .i64 0] 125))
    have HG:Hid (Calls Tryz.prog 110 #[.pointer (some ⟨V.heap.size,0,none⟩)] (X.alloc (.cells #[.int .i64 0,.int .i64 0] 125)) fun e W'=>∃ h',e=.returned (gv h' (gmOf S'))/\OwnG W' V.heap.size h' (gmOf S') qs'/\Below (X.alloc (.cells #[.int .i64 0,.int .i64 0] 125)).heap.size (X.alloc (.cells #[.int .i64 0,.int .i64 0] 125)) W'):=qkp _ _ _ _ _ _ (HX.out.1.step hx)
    have HBW:Hid (Below w.heap.size w (X.alloc (.cells #[.int .i64 0,.int .i64 0] 125))/\(X.alloc (.cells #[.int .i64 0,.int .i64 0] 125)).heap[gb]?=some (.cells #[.slice none 0 0,.string ⟨#[]⟩,.int .i64 0,.slice none 0 0] 25 (0,0))/\(X.alloc (.cells #[.int .i64 0,.int .i64 0] 125)).heap[nb]?=some (.cells #[.int .i64 0,.int .i64 0] 125 (0,0))/\w.heap.size<=V.heap.size):=⟨qd (qd HBY.out.1 HX.out.1.bel) hx,qf hx HX.out.2.2.1,qf hx HX.out.2.2.2,HBY.out.1.size⟩
    clear hx HKD HRS HX HBY
    go_wp2_with fail
    refine HG.out.mono ?_
    rintro e Y ⟨⟨ta',tc',ra',rc'⟩,rfl,hO,hB⟩
    have b1:=qf hB HBW.out.2.1
    have b2:=qf hB HBW.out.2.2.1
    have HY:Hid (OwnG Y w.heap.size ⟨ta',tc',ra',rc'⟩ (gmOf S') qs'/\Below w.heap.size w Y/\Loc Y gb 25/\Loc Y nb 125):=⟨⟨zd hO.tok HBW.out.2.2.2,zd hO.rul HBW.out.2.2.2,hO.map,fun q hq=>zd (hO.row q hq) HBW.out.2.2.2⟩,qd HBW.out.1 hB,⟨_,b1⟩,⟨_,b2⟩⟩
    obtain ⟨y0,y1,y2,y3,y4,y5,y6,y7⟩:=j1 b1
    obtain ⟨q3,q4,z3,z4⟩:=zg b2
    clear hO hB b1 b2 HG HBW p0 p1 p2 p3
    unfold gv gmOf
    simp only
    go_wp2_with fail
    refine bodyPost_ret (v:=.tuple #[.agg #[.slice ta' S'.ts.length tc',.string S'.st,.int .i64 S'.ex,.slice ra' S'.rs.length rc'],.agg #[.int .i64 0,.int .i64 0]]) (by simp [results,Tryz.results100,go_sem, *]) rfl ?_
    obtain ⟨o,hb,l1,l2⟩:=HY.out
    refine ⟨((yf _ _ _ _ hb HNB.out.1).setCell (p:=⟨nb,0,none⟩) HNB.out.2.1 _).setCell (p:=⟨nb,1,none⟩) HNB.out.2.1 _,?_⟩
    rw [HE.out]
    refine ⟨⟨ta',tc',ra',rc'⟩,qs',rfl,?_⟩
    exact (((((o.off l1 (by decide)).off (l1.set _ _ _) (by decide)).off ((l1.set _ _ _).set _ _ _) (by decide)).off (((l1.set _ _ _).set _ _ _).set _ _ _) (by decide)).off ((((l2.set _ _ _).set _ _ _).set _ _ _).set _ _ _) (by decide)).off (((((l2.set _ _ _).set _ _ _).set _ _ _).set _ _ _).set _ _ _) (by decide)
  ·have hbd:bad=(m:Int):=by rw [<-HBAD.out];exact hf
   have hm:=qlr hf
   have hm1:m<s.size:=hm.1
   have hsz:(s.extract 0 m).size<=1048576:=by rw [ByteArray.size_extract];omega
   have HSC:Hid (Calls Tryz.prog 108 #[.string (s.extract 0 m)] V fun e w'=>qap (s.extract 0 m) V w' e):=qbm (s.extract 0 m) V hsz
   have HM:Hid ((scan (by8 (s.extract 0 m))).2=-1/\(scan (by8 s)).2=(m:Int)):=⟨hm.2,hf⟩
   have hge:(m:Int) ≥ 0:=by omega
   have hm2:(m:Int)<=(s.size:Int):=by omega
   subst hbd
   clear hm hf hsz
   go_wp2_with fail
   refine HSC.out.mono ?_
   rintro e V2 ⟨v2,rfl,hW,hB⟩
   have HF:Hid (∃ t base,IsW V2 base t v2 (scan (by8 t)).1/\(scan (by8 t)).2=-1/\Below W1.heap.size W1 V2/\jr s=qa7 (m:Int) (vh (st0 (kd t)))):=by
    refine ⟨s.extract 0 m,_,hW,HM.out.1,qd HV.out.2 hB,?_⟩
    unfold jr qa7
    rw [if_neg HL.out,HM.out.2,if_neg (by omega),if_neg (by omega)]
    rfl
   have hlt0:¬ ((m:Int)<0):=by omega
   clear hW hB HSC HM HV HBAD HL
   go_upto_region 6 with fail
   obtain ⟨t,base,hW,hsf,hBt,hrs⟩:=HF.out
   obtain ⟨⟨wb,wo,wl,ta,tc,ra,rc⟩,rfl,h1,h2,h3,h4,hrd⟩:=RD.init hW hsf
   simp only at h1 h2 h3 h4
   subst h1 h2 h3 h4
   obtain ⟨R,hR⟩:∃ R,vh (st0 (kd t))=R:=⟨_,rfl⟩
   have HTX:Hid (Calls Tryz.prog 109 #[.pointer (some ⟨V2.heap.size,0,none⟩)] (V2.alloc (.cells #[.slice (some ⟨wb,wo,none⟩) (st0 (kd t)).ws.length wl,.slice none 0 0,.int .i64 0,.string ⟨#[]⟩,.bool false,.int .i64 0,.slice none 0 0] 139)) fun e W'=>DidQ V2 (V2.alloc (.cells #[.slice (some ⟨wb,wo,none⟩) (st0 (kd t)).ws.length wl,.slice none 0 0,.int .i64 0,.string ⟨#[]⟩,.bool false,.int .i64 0,.slice none 0 0] 139)) V2.heap.size R e W'):=by rw [<-hR];exact qep _ _ _ _ _ _ hrd
   have HRS:Hid (jr s=qa7 (m:Int) R):=by rw [<-hR];exact hrs
   have HKD:Hid (∀ g,R=.error g->g.1≠0):=fun g hg=>qil (hR.trans hg)
   have hx:=qb V2 (.cells #[.slice (some ⟨wb,wo,none⟩) (st0 (kd t)).ws.length wl,.slice none 0 0,.int .i64 0,.string ⟨#[]⟩,.bool false,.int .i64 0,.slice none 0 0] 139)
   have HBY:Hid (Below w.heap.size w V2/\V2.heap[gb]?=some (.cells #[.slice none 0 0,.string ⟨#[]⟩,.int .i64 0,.slice none 0 0] 25 (0,0))/\V2.heap[nb]?=some (.cells #[.int .i64 0,.int .i64 0] 125 (0,0))):=⟨qd HB.out hBt,qf hBt HBX.out.1,qf hBt HBX.out.2⟩
   have HBZ:Hid ((V2.alloc (.cells #[.slice (some ⟨wb,wo,none⟩) (st0 (kd t)).ws.length wl,.slice none 0 0,.int .i64 0,.string ⟨#[]⟩,.bool false,.int .i64 0,.slice none 0 0] 139)).heap[gb]?=some (.cells #[.slice none 0 0,.string ⟨#[]⟩,.int .i64 0,.slice none 0 0] 25 (0,0))/\(V2.alloc (.cells #[.slice (some ⟨wb,wo,none⟩) (st0 (kd t)).ws.length wl,.slice none 0 0,.int .i64 0,.string ⟨#[]⟩,.bool false,.int .i64 0,.slice none 0 0] 139)).heap[nb]?=some (.cells #[.int .i64 0,.int .i64 0] 125 (0,0))):=⟨qf hx HBY.out.2.1,qf hx HBY.out.2.2⟩
   clear HF hW hsf hrs hrd hR hBt HBX HB hx
   go_upto_region 7 with fail
   generalize (st0 (kd t)).ws.length=wn at *
   generalize V2.alloc (.cells #[.slice (some ⟨wb,wo,none⟩) wn wl,.slice none 0 0,.int .i64 0,.string ⟨#[]⟩,.bool false,.int .i64 0,.slice none 0 0] 139)=X0 at *
   go_wp2_with fail
   refine HTX.out.mono ?_
   rintro e X ⟨hd',S',qs',rfl,hrd',hk,hS⟩
   have HX:Hid (RD V2 X V2.heap.size hd' S' qs'/\(∀ S1,R=.ok S1->S'=S1)/\X.heap[gb]?=some (.cells #[.slice none 0 0,.string ⟨#[]⟩,.int .i64 0,.slice none 0 0] 25 (0,0))/\X.heap[nb]?=some (.cells #[.int .i64 0,.int .i64 0] 125 (0,0))):=⟨hrd',hS,hk.loc _ _ _ HBZ.out.1 (by decide) (by decide) (by decide) (by decide),hk.loc _ _ _ HBZ.out.2 (by decide) (by decide) (by decide) (by decide)⟩
   clear hrd' hk hS HTX HBZ
   cases R with
   | error g =>
    obtain ⟨gk,ga⟩:=g
    have hk0:gk≠0:=HKD.out _ rfl
    have hk1:(gk == 0)=false:=by simpa using hk0
    have hk2:(gk != 0)=true:=by simpa using hk0
    have HE:Hid (jr s=.error (gk,ga)):=by
     show _=_
     rw [HRS.out]
     unfold qa7
     split <;> rfl
    rw [show fv (kf (.error (gk,ga):Except Flt St))=.agg #[.int .i64 gk,.int .i64 ga] from rfl]
    clear HRS HKD hk0
    have hx:=qb X (.cells #[.int .i64 gk,.int .i64 ga] 125)
    have b0:=heap_alloc_new X (.cells #[.int .i64 gk,.int .i64 ga] 125)
    have b1:=qf hx HX.out.2.2.1
    have b2:=qf hx HX.out.2.2.2
    obtain ⟨y0,y1,y2,y3,y4,y5,y6,y7⟩:=j1 b1
    obtain ⟨q3,q4,z3,z4⟩:=zg b2
    obtain ⟨p0,p1,p2,p3⟩:=zg b0
    have hn1:X.heap.size≠gb:=fun e=>by have:=(Array.getElem?_eq_some_iff.1 HX.out.2.2.1).1;omega
    have hn2:X.heap.size≠nb:=fun e=>by have:=(Array.getElem?_eq_some_iff.1 HX.out.2.2.2).1;omega
    clear hx b0 b1 b2
    have HBW:Hid (Below w.heap.size w (X.alloc (.cells #[.int .i64 gk,.int .i64 ga] 125))):=qd (qd HBY.out.1 HX.out.1.bel) (qb _ _)
    go_upto_region 11 with fail
    generalize X.alloc (.cells #[.int .i64 gk,.int .i64 ga] 125)=X1 at *
    generalize X.heap.size=fb at *
    clear HX HBY
    go_region
    go_wp2_with fail
    refine bodyPost_ret (v:=.tuple #[.agg #[.slice none 0 0,.string ⟨#[]⟩,.int .i64 0,.slice none 0 0],.agg #[.int .i64 gk,.int .i64 ga]]) (by simp [results,Tryz.results100,go_sem, *]) rfl ?_
    refine ⟨?_,by rw [HE.out];rfl⟩
    exact qd (((yf (.slice none 0 0) (.string ⟨#[]⟩) (.int .i64 0) (.slice none 0 0) HBW.out HNB.out.1).setCell (p:=⟨nb,0,none⟩) HNB.out.2.1 _).setCell (p:=⟨nb,1,none⟩) HNB.out.2.1 _) (qk _)
   | ok S1 =>
    have HE:Hid (jr s=.error (1,(m:Int))):=by
     show _=_
     rw [HRS.out]
     unfold qa7
     rw [if_neg (by omega)]
    rw [show fv (kf (.ok S1:Except Flt St))=.agg #[.int .i64 0,.int .i64 0] from rfl]
    have hx:=qb X (.cells #[.int .i64 0,.int .i64 0] 125)
    have b0:=heap_alloc_new X (.cells #[.int .i64 0,.int .i64 0] 125)
    obtain ⟨p0,p1,p2,p3⟩:=zg b0
    have hn1:gb≠X.heap.size:=fun e=>by have:=(Array.getElem?_eq_some_iff.1 HX.out.2.2.1).1;omega
    have hn2:nb≠X.heap.size:=fun e=>by have:=(Array.getElem?_eq_some_iff.1 HX.out.2.2.2).1;omega
    have HBW:Hid (Below w.heap.size w (X.alloc (.cells #[.int .i64 0,.int .i64 0] 125))/\(X.alloc (.cells #[.int .i64 0,.int .i64 0] 125)).heap[gb]?=some (.cells #[.slice none 0 0,.string ⟨#[]⟩,.int .i64 0,.slice none 0 0] 25 (0,0))/\(X.alloc (.cells #[.int .i64 0,.int .i64 0] 125)).heap[nb]?=some (.cells #[.int .i64 0,.int .i64 0] 125 (0,0))/\w.heap.size<=X.heap.size):=⟨qd (qd HBY.out.1 HX.out.1.bel) hx,qf hx HX.out.2.2.1,qf hx HX.out.2.2.2,(qd HBY.out.1 HX.out.1.bel).size⟩
    clear hx HKD HRS HX HBY
    go_upto_region 9 with fail
    generalize X.alloc (.cells #[.int .i64 0,.int .i64 0] 125)=X1 at *
    generalize X.heap.size=fb at *
    have hX2:Hid (Below w.heap.size w ((X1.setCell ⟨fb,0,none⟩ (.int .i64 1)).setCell ⟨fb,1,none⟩ (.int .i64 (m:Int)))):=(HBW.out.1.setCell (p:=⟨fb,0,none⟩) HBW.out.2.2.2 _).setCell (p:=⟨fb,1,none⟩) HBW.out.2.2.2 _
    have b1:((X1.setCell ⟨fb,0,none⟩ (.int .i64 1)).setCell ⟨fb,1,none⟩ (.int .i64 (m:Int))).heap[gb]?=some (.cells #[.slice none 0 0,.string ⟨#[]⟩,.int .i64 0,.slice none 0 0] 25 (0,0)):=by
     rw [Below.heap_setCell _ _ _ _ hn1,Below.heap_setCell _ _ _ _ hn1]
     exact HBW.out.2.1
    have b2:((X1.setCell ⟨fb,0,none⟩ (.int .i64 1)).setCell ⟨fb,1,none⟩ (.int .i64 (m:Int))).heap[nb]?=some (.cells #[.int .i64 0,.int .i64 0] 125 (0,0)):=by
     rw [Below.heap_setCell _ _ _ _ hn2,Below.heap_setCell _ _ _ _ hn2]
     exact HBW.out.2.2.1
    have b3:((X1.setCell ⟨fb,0,none⟩ (.int .i64 1)).setCell ⟨fb,1,none⟩ (.int .i64 (m:Int))).heap[fb]?=some (.cells #[.int .i64 1,.int .i64 (m:Int)] 125 (0,0)):=by
     have e1:(X1.setCell ⟨fb,0,none⟩ (.int .i64 1)).heap[fb]?=some (.cells #[.int .i64 1,.int .i64 0] 125 (0,0)):=by
      rw [setCell_eq_setRow X1 fb 0 _ 125 (0,0) _ b0]
      exact setRow_heap _ _ _ _ 125 _ b0
     rw [setCell_eq_setRow _ fb 1 _ 125 (0,0) _ e1]
     exact setRow_heap _ _ _ _ 125 _ e1
    go_upto_region 10 with fail
    clear p0 p1 p2 p3 b0 HBW
    generalize (X1.setCell ⟨fb,0,none⟩ (.int .i64 1)).setCell ⟨fb,1,none⟩ (.int .i64 (m:Int))=X2 at *
    obtain ⟨p0,p1,p2,p3⟩:=zg b3
    obtain ⟨y0,y1,y2,y3,y4,y5,y6,y7⟩:=j1 b1
    obtain ⟨q3,q4,z3,z4⟩:=zg b2
    have hn1':=hn1.symm
    have hn2':=hn2.symm
    clear b1 b2 b3 hn1 hn2
    go_upto_region 11 with fail
    go_region
    go_wp2_with fail
    refine bodyPost_ret (v:=.tuple #[.agg #[.slice none 0 0,.string ⟨#[]⟩,.int .i64 0,.slice none 0 0],.agg #[.int .i64 1,.int .i64 (m:Int)]]) (by simp [results,Tryz.results100,go_sem, *]) rfl ?_
    refine ⟨?_,by rw [HE.out];rfl⟩
    exact qd (((yf (.slice none 0 0) (.string ⟨#[]⟩) (.int .i64 0) (.slice none 0 0) hX2.out HNB.out.1).setCell (p:=⟨nb,0,none⟩) HNB.out.2.1 _).setCell (p:=⟨nb,1,none⟩) HNB.out.2.1 _) (qk _)
def tx1:ByteArray:=⟨#[37,108,101,102,116,32,80,32,37,108,101,102,116,32,77,32,37,116,111,107,101,110,32,78,32,37,37,32,101,58,32,101,32,80,32,101,32,124,32,101,32,77,32,101,32,124,32,78,59]⟩
def tx2:ByteArray:=⟨#[37,116,111,107,101,110,32,65,32,65,32,37,37]⟩
def tx3:ByteArray:=⟨#[37,37,32,101,32,58,32,124,32]⟩
def qg2 (R:Except Flt St) (k a:Int):Bool:=match R with | .error g=>g.1 == k && g.2 == a | .ok _=>false
def qnf (R:Except Flt St):Bool:=match R with | .error _=>false | .ok S=>S.ts.length == 3 && S.rs.length == 3 && (tkAt S.ts 0).n.toList == [80]
theorem qqn {R:Except Flt St} {k a:Int} (h:qg2 R k a=true):R=.error (k,a):=by
 unfold qg2 at h
 split at h
 ·rename_i g
  simp only [Bool.and_eq_true,beq_iff_eq] at h
  obtain ⟨g1,g2⟩:=g
  simp only at h
  rw [h.1,h.2]
 ·cases h
theorem qqo {R:Except Flt St} (h:qnf R=true):∃ S,R=.ok S/\S.ts.length=3/\S.rs.length=3/\(tkAt S.ts 0).n.toList=[80]:=by
 unfold qnf at h
 split at h
 ·cases h
 ·rename_i S
  simp only [Bool.and_eq_true,beq_iff_eq] at h
  exact ⟨S,rfl,h.1.1,h.1.2,h.2⟩
theorem qov:qnf (jr tx1)=true:=by kernel_rfl
theorem qow:qg2 (jr tx2) 7 9=true:=by kernel_rfl
theorem qox:qg2 (jr tx3) 1 9=true:=by kernel_rfl
theorem qi8 (w:World) (hp:Pow w):Calls Tryz.prog 101 #[] w fun e w'=>e=.returned (.bool true)/\Below w.heap.size w w':=by
 have H:Hid (Calls Tryz.prog 111 #[] w fun e w'=>e=.returned (.bool true)/\Below w.heap.size w w'):=qj2 w hp
 go_enter Tryz.func101,Tryz.ntmps101
 go_wp2_with fail
 refine H.out.mono ?_
 rintro e V ⟨rfl,hB⟩
 have HB:Hid (Below w.heap.size w V):=hB
 clear hB
 go_wp2_with fail
 go_ret
 exact ⟨rfl,HB.out⟩
theorem qoy (w:World):Calls Tryz.prog 100 #[.string tx1] w fun e w'=>∃ tb tc st ex ra rc nm,e=.returned (.tuple #[.agg #[.slice (some ⟨tb,0,none⟩) 3 tc,.string st,.int .i64 ex,.slice ra 3 rc],.agg #[.int .i64 0,.int .i64 0]])/\Below w.heap.size w w'/\w'.cell? ⟨tb,0,none⟩=some (.string nm)/\nm.toList=[80]/\3<=tc/\tc<=9223372036854775807:=by
 obtain ⟨S,hS,h1,h2,h3⟩:=qqo qov
 refine (qg1 tx1 w (by decide)).mono ?_
 rintro e w' ⟨hb,h⟩
 rw [hS] at h
 obtain ⟨⟨ta,tc,ra,rc⟩,qs,rfl,ho⟩:=h
 have hto:=ho.tok
 obtain ⟨t,ht⟩:∃ t,S.ts[0]?=some t:=⟨S.ts[0]'(by omega),List.getElem?_eq_getElem _⟩
 obtain ⟨ao,c,e,q1,q2,q3⟩:=zh hto
 cases e
 obtain ⟨tb,rfl⟩:∃ tb,ta=some ⟨tb,0,none⟩:=by
  rcases q3 with ⟨-,q3,-⟩ | q3
  ·have:S.ts.length=0:=q3
   omega
  ·exact q3
 obtain ⟨b,o,he,p0,-,-⟩:=ja (Row.of_own hto) ht
 cases he
 refine ⟨tb,tc,S.st,S.ex,ra,rc,t.n,?_,hb,?_,?_,?_,?_⟩
 ·unfold gv gmOf fv
  simp only [h1,h2]
 ·simpa using p0
 ·unfold tkAt at h3
  rw [ht] at h3
  exact h3
 ·have:S.ts.length<=tc:=q1
  omega
 ·unfold maxLen at q2
  exact q2
theorem qim (s:ByteArray) (w:World) (hs:s.size<=1048576) (k a:Int) (h:qg2 (jr s) k a=true):Calls Tryz.prog 100 #[.string s] w fun e w'=>e=.returned (.tuple #[.agg #[.slice none 0 0,.string ⟨#[]⟩,.int .i64 0,.slice none 0 0],.agg #[.int .i64 k,.int .i64 a]])/\Below w.heap.size w w':=by
 refine (qg1 s w hs).mono ?_
 rintro e w' ⟨hb,h1⟩
 rw [qqn h] at h1
 exact ⟨h1,hb⟩
theorem qkq (w:World) (hp:Pow w):Calls Tryz.prog 88 #[] w fun e w'=>e=.returned (.bool true)/\Below w.heap.size w w':=by
 have HP:Hid (Pow w):=hp
 have H1:Hid (∀ W:World,Calls Tryz.prog 100 #[.string ⟨#[37,108,101,102,116,32,80,32,37,108,101,102,116,32,77,32,37,116,111,107,101,110,32,78,32,37,37,32,101,58,32,101,32,80,32,101,32,124,32,101,32,77,32,101,32,124,32,78,59]⟩] W fun e w'=>∃ tb tc st ex ra rc nm,e=.returned (.tuple #[.agg #[.slice (some ⟨tb,0,none⟩) 3 tc,.string st,.int .i64 ex,.slice ra 3 rc],.agg #[.int .i64 0,.int .i64 0]])/\Below W.heap.size W w'/\w'.cell? ⟨tb,0,none⟩=some (.string nm)/\nm.toList=[80]/\3<=tc/\tc<=9223372036854775807):=fun W=>qoy W
 have H2:Hid (∀ W:World,Calls Tryz.prog 100 #[.string ⟨#[37,116,111,107,101,110,32,65,32,65,32,37,37]⟩] W fun e w'=>e=.returned (.tuple #[.agg #[.slice none 0 0,.string ⟨#[]⟩,.int .i64 0,.slice none 0 0],.agg #[.int .i64 7,.int .i64 9]])/\Below W.heap.size W w'):=fun W=>qim tx2 W (by decide) 7 9 qow
 have H3:Hid (∀ W:World,Calls Tryz.prog 100 #[.string ⟨#[37,37,32,101,32,58,32,124,32]⟩] W fun e w'=>e=.returned (.tuple #[.agg #[.slice none 0 0,.string ⟨#[]⟩,.int .i64 0,.slice none 0 0],.agg #[.int .i64 1,.int .i64 9]])/\Below W.heap.size W w'):=fun W=>qim tx3 W (by decide) 1 9 qox
 clear hp
 go_enter Tryz.func88,Tryz.ntmps88
 go_wp2_with fail
 refine (H1.out _).mono ?_
 rintro e V ⟨tb,tc,st,ex,ra,rc,nm,rfl,hBV,hc0,hnm,htc1,htc2⟩
 have hBa:Below V.heap.size V ((V.alloc (.cells #[.slice (some ⟨tb,0,none⟩) 3 tc,.string st,.int .i64 ex,.slice ra 3 rc] 25)).alloc (.cells #[.int .i64 0,.int .i64 0] 125)):=qd (qb _ _) (qb _ _)
 have hba1:((V.alloc (.cells #[.slice (some ⟨tb,0,none⟩) 3 tc,.string st,.int .i64 ex,.slice ra 3 rc] 25)).alloc (.cells #[.int .i64 0,.int .i64 0] 125)).heap[V.heap.size]?=some (.cells #[.slice (some ⟨tb,0,none⟩) 3 tc,.string st,.int .i64 ex,.slice ra 3 rc] 25 (0,0)):=qf (qb _ _) (heap_alloc_new _ _)
 have hba2:((V.alloc (.cells #[.slice (some ⟨tb,0,none⟩) 3 tc,.string st,.int .i64 ex,.slice ra 3 rc] 25)).alloc (.cells #[.int .i64 0,.int .i64 0] 125)).heap[V.heap.size+1]?=some (.cells #[.int .i64 0,.int .i64 0] 125 (0,0)):=by
  have:=heap_alloc_new (V.alloc (.cells #[.slice (some ⟨tb,0,none⟩) 3 tc,.string st,.int .i64 ex,.slice ra 3 rc] 25)) (.cells #[.int .i64 0,.int .i64 0] 125)
  rwa [qt] at this
 go_upto_region 2 with fail
 obtain ⟨pa,hpa⟩:∃ pa,pa=V.heap.size:=⟨_,rfl⟩
 rw [<-hpa] at hba1 hba2 ⊢
 generalize (V.alloc (.cells #[.slice (some ⟨tb,0,none⟩) 3 tc,.string st,.int .i64 ex,.slice ra 3 rc] 25)).alloc (.cells #[.int .i64 0,.int .i64 0] 125)=V1 at *
 have HV1:Hid (Below w.heap.size w V1/\V1.heap[pa]?=some (.cells #[.slice (some ⟨tb,0,none⟩) 3 tc,.string st,.int .i64 ex,.slice ra 3 rc] 25 (0,0))/\V1.heap[pa+1]?=some (.cells #[.int .i64 0,.int .i64 0] 125 (0,0))/\V1.cell? ⟨tb,0,none⟩=some (.string nm)):=⟨qd hBV hBa,hba1,hba2,qj hBa hc0⟩
 clear hBV hBa hba1 hba2 hc0 hpa
 go_wp2_with fail
 refine (H2.out _).mono ?_
 rintro e X ⟨rfl,hBX⟩
 have hBb:Below X.heap.size X ((X.alloc (.cells #[.slice none 0 0,.string ⟨#[]⟩,.int .i64 0,.slice none 0 0] 25)).alloc (.cells #[.int .i64 7,.int .i64 9] 125)):=qd (qb _ _) (qb _ _)
 have hbb1:((X.alloc (.cells #[.slice none 0 0,.string ⟨#[]⟩,.int .i64 0,.slice none 0 0] 25)).alloc (.cells #[.int .i64 7,.int .i64 9] 125)).heap[X.heap.size]?=some (.cells #[.slice none 0 0,.string ⟨#[]⟩,.int .i64 0,.slice none 0 0] 25 (0,0)):=qf (qb _ _) (heap_alloc_new _ _)
 have hbb2:((X.alloc (.cells #[.slice none 0 0,.string ⟨#[]⟩,.int .i64 0,.slice none 0 0] 25)).alloc (.cells #[.int .i64 7,.int .i64 9] 125)).heap[X.heap.size+1]?=some (.cells #[.int .i64 7,.int .i64 9] 125 (0,0)):=by
  have:=heap_alloc_new (X.alloc (.cells #[.slice none 0 0,.string ⟨#[]⟩,.int .i64 0,.slice none 0 0] 25)) (.cells #[.int .i64 7,.int .i64 9] 125)
  rwa [qt] at this
 go_upto_region 3 with fail
 obtain ⟨pb,hpb⟩:∃ pb,pb=X.heap.size:=⟨_,rfl⟩
 rw [<-hpb] at hbb1 hbb2 ⊢
 generalize (X.alloc (.cells #[.slice none 0 0,.string ⟨#[]⟩,.int .i64 0,.slice none 0 0] 25)).alloc (.cells #[.int .i64 7,.int .i64 9] 125)=X1 at *
 have HX1:Hid (Below V1.heap.size V1 X1/\X1.heap[pb+1]?=some (.cells #[.int .i64 7,.int .i64 9] 125 (0,0))):=⟨qd hBX hBb,hbb2⟩
 clear hBX hBb hbb1 hbb2 hpb
 go_wp2_with fail
 refine (H3.out _).mono ?_
 rintro e Y ⟨rfl,hBY⟩
 have hBc:Below Y.heap.size Y ((Y.alloc (.cells #[.slice none 0 0,.string ⟨#[]⟩,.int .i64 0,.slice none 0 0] 25)).alloc (.cells #[.int .i64 1,.int .i64 9] 125)):=qd (qb _ _) (qb _ _)
 have hbc1:((Y.alloc (.cells #[.slice none 0 0,.string ⟨#[]⟩,.int .i64 0,.slice none 0 0] 25)).alloc (.cells #[.int .i64 1,.int .i64 9] 125)).heap[Y.heap.size]?=some (.cells #[.slice none 0 0,.string ⟨#[]⟩,.int .i64 0,.slice none 0 0] 25 (0,0)):=qf (qb _ _) (heap_alloc_new _ _)
 have hbc2:((Y.alloc (.cells #[.slice none 0 0,.string ⟨#[]⟩,.int .i64 0,.slice none 0 0] 25)).alloc (.cells #[.int .i64 1,.int .i64 9] 125)).heap[Y.heap.size+1]?=some (.cells #[.int .i64 1,.int .i64 9] 125 (0,0)):=by
  have:=heap_alloc_new (Y.alloc (.cells #[.slice none 0 0,.string ⟨#[]⟩,.int .i64 0,.slice none 0 0] 25)) (.cells #[.int .i64 1,.int .i64 9] 125)
  rwa [qt] at this
 go_upto_region 4 with fail
 obtain ⟨pc,hpc⟩:∃ pc,pc=Y.heap.size:=⟨_,rfl⟩
 rw [<-hpc] at hbc1 hbc2 ⊢
 generalize (Y.alloc (.cells #[.slice none 0 0,.string ⟨#[]⟩,.int .i64 0,.slice none 0 0] 25)).alloc (.cells #[.int .i64 1,.int .i64 9] 125)=Y1 at *
 have HY1:Hid (Below X1.heap.size X1 Y1/\Y1.heap[pc+1]?=some (.cells #[.int .i64 1,.int .i64 9] 125 (0,0))):=⟨qd hBY hBc,hbc2⟩
 clear hBY hBc hbc1 hbc2 hpc
 have HB1:Hid (Below V1.heap.size V1 Y1/\Below w.heap.size w Y1):=⟨qd HX1.out.1 HY1.out.1,qd HV1.out.1 (qd HX1.out.1 HY1.out.1)⟩
 go_wp2_with fail
 refine (qi8 Y1 (HP.out.below HB1.out.2)).mono ?_
 rintro e U ⟨rfl,hBU⟩
 have hVU:=qd HB1.out.1 hBU
 obtain ⟨a0,a1,a2,a3,-,-,-,-⟩:=j1 (qf hVU HV1.out.2.1)
 obtain ⟨a4,a5,-,-⟩:=zg (qf hVU HV1.out.2.2.1)
 have a6:=qj hVU HV1.out.2.2.2
 obtain ⟨b4,b5,-,-⟩:=zg (qf (qd HY1.out.1 hBU) HX1.out.2)
 obtain ⟨d4,d5,-,-⟩:=zg (qf hBU HY1.out.2)
 have HU:Hid (Below w.heap.size w U):=qd HB1.out.2 hBU
 have hnm2:(nm.toList == [80])=true:=by rw [hnm];rfl
 clear hVU hBU HV1 HX1 HY1 HB1 hnm
 go_wp2_with fail
 go_ret
 exact ⟨rfl,HU.out⟩
theorem u23:Tryz.prog.underlying 23=some (.slice 55):=by kernel_rfl
theorem qoz (qs:List (Ru × Option Addr × Nat)) (q:Ru × Option Addr × Nat):rulC (qs++[q])=rulC qs++[.string q.1.l,.slice q.2.1 q.1.r.length q.2.2,.string q.1.p]:=by unfold rulC;rw [List.flatMap_append];rfl
theorem OwnG.addRu {W:World} {base:Nat} {h:Hd} {G:Gm} {qs:List (Ru × Option Addr × Nat)} (o:OwnG W base h G qs) (q:Ru × Option Addr × Nat) (n:Nat) (en:G.rs.length=n) (hq:OwnS W base (.slice q.2.1 q.1.r.length q.2.2) q.1.r) (hB:base<=W.heap.size) (hn:n<10000) :
  ∃ g c W',(Builtin.append_ #[23,23] 23 #[.slice h.ra n h.rc,.slice (some ⟨W.heap.size,0,none⟩) 1 1]).run Tryz.prog (W.alloc (.cells #[.string q.1.l,.slice q.2.1 q.1.r.length q.2.2,.string q.1.p] 55))=.ok (.slice (some ⟨g,0,none⟩) (n+1) c) W'/\OwnG W' base ⟨h.ta,h.tc,some ⟨g,0,none⟩,c⟩ ⟨G.ts,G.s,G.e,G.rs++[q.1]⟩ (qs++[q])/\Kept (fun k=>blk h.ra=some k) W W'/\(∀ (b T:Nat) (d:Array Value),W.heap[b]?=some (.cells d T (0,0))->T≠55->W'.heap[b]?=some (.cells d T (0,0))):=by
 subst en
 obtain ⟨g,c,W',hr,ho,hk,hg⟩:=jc (us:=[.string q.1.l,.slice q.2.1 q.1.r.length q.2.2,.string q.1.p]) u23 Tryz.info55 rfl (by decide) (by decide) rfl (fun u hu=>by simp at hu;rcases hu with rfl | rfl | rfl <;> rfl) o.rul hB (by omega)
 have hk0:Kept (fun k=>blk h.ra=some k) W W':=((Kept.refl _ W).alloc _).trans hk (fun k _ e=>zi e)
 have stay:∀ {E k n:Nat} {v:Value} {cs:List Value},W.ownsRow base E k v n cs->E≠55->W'.ownsRow base E k v n cs:=fun ho hE=>j8 ho hk0 (fun i hi e=>qr (qx ho hi) (qw o.rul e).2.2 hE rfl)
 refine ⟨g,c,W',hr,⟨stay o.tok (by decide),?_,by rw [List.map_append,o.map];rfl,?_⟩,hk0,fun b T d hb hT=>?_⟩
 ·rw [qoz]
  simp only [List.length_append,List.length_cons,List.length_nil]
  exact ho
 ·intro q' hq'
  rcases List.mem_append.1 hq' with h1 | h1
  ·exact stay (o.row q' h1) (by decide)
  ·rw [List.mem_singleton] at h1
   subst h1
   exact stay hq (by decide)
 ·rw [hk0.block _ (Array.getElem?_eq_some_iff.1 hb).1 (fun e=>qr ⟨_,hb⟩ (qw o.rul e).2.2 hT rfl)]
  exact hb
theorem qi9 (w:World) (hp:Pow w):Calls Tryz.prog 74 #[] w fun e w'=>e=.returned (.bool true)/\Below w.heap.size w w':=by
 have H:Hid (Calls Tryz.prog 88 #[] w fun e w'=>e=.returned (.bool true)/\Below w.heap.size w w'):=qkq w hp
 go_enter Tryz.func74,Tryz.ntmps74
 go_wp2_with fail
 refine H.out.mono ?_
 rintro e V ⟨rfl,hB⟩
 have HB:Hid (Below w.heap.size w V):=hB
 clear hB
 go_wp2_with fail
 go_ret
 exact ⟨rfl,HB.out⟩
theorem qls:Small qa5:=by
 have h:=qan
 have hX:bX.size<=100:=by decide
 refine ⟨h.nt,by decide,h.st,h.tk,fun r hr=>?_⟩
 rcases List.mem_append.1 hr with hr | hr
 ·exact h.rl r hr
 ·rw [List.mem_singleton] at hr
  subst hr
  refine ⟨hX,by decide,by decide,fun x hx=>?_⟩
  rw [List.mem_singleton] at hx
  subst hx
  exact hX
theorem qqp (w:World):IsG w ⟨none,0,none,0⟩ qje:=⟨⟨rfl,Nat.le_refl _,Nat.zero_le _,.inl ⟨rfl,rfl,rfl⟩⟩,⟨[],rfl,⟨rfl,Nat.le_refl _,Nat.zero_le _,.inl ⟨rfl,rfl,rfl⟩⟩,fun q h=>(by cases h)⟩,⟨by decide,by decide,by decide,fun t h=>(by cases h),fun r h=>(by cases h)⟩⟩
theorem qmf (h:SHd):sC h (spG qu)=#[.int .i64 3,.int .i64 1,.int .i64 4,.int .i64 0,.slice h.na 5 h.nc,.slice h.la 3 h.lc,.slice h.aa 3 h.ac,.slice h.ra 4 h.rc]:=by
 have e:(nmG qu).length=5:=by rw [jj,vt];rfl
 rw [xy]
 unfold sC
 simp only [e]
 rfl
theorem qkr (W:World) (h:Hd) (hg:IsG W h qu):Calls Tryz.prog 73 #[gv h qu] W fun e w'=>∃ na nc la lc aa ac ra rc,e=.returned (.tuple #[.agg #[.int .i64 3,.int .i64 1,.int .i64 4,.int .i64 0,.slice na 5 nc,.slice la 3 lc,.slice aa 3 ac,.slice ra 4 rc],.int .i64 0])/\(IsSp w' ⟨na,nc,la,lc,aa,ac,ra,rc⟩ (spG qu)/\4<=rc/\rc<=9223372036854775807)/\Below W.heap.size W w':=by
 refine (qkb qu h W 0 hg qhr).mono ?_
 rintro e w' ⟨h1,hb⟩
 rcases h1 with ⟨h1,-⟩ | ⟨-,⟨na,nc,la,lc,aa,ac,ra,rc⟩,rfl,hs⟩
 ·exact absurd rfl h1
 ·refine ⟨na,nc,la,lc,aa,ac,ra,rc,by unfold sv;rw [qmf],⟨hs,?_⟩,hb⟩
  have:=j6 hs.rl
  have e:(spG qu).rs.length=4:=by rw [xy];rfl
  rw [e] at this
  exact this
theorem qfb (G:Gm) (k:Int) (W:World) (h:Hd) (hg:IsG W h G) (hk:OfR G k) (h0:k≠0):Calls Tryz.prog 73 #[gv h G] W fun e w'=>e=.returned (.tuple #[.agg zC,.int .i64 k])/\Below W.heap.size W w':=by
 refine (qkb G h W k hg hk).mono ?_
 rintro e w' ⟨h1,hb⟩
 rcases h1 with ⟨-,h1⟩ | ⟨h1,-⟩
 ·exact ⟨h1,hb⟩
 ·exact absurd h1 h0
theorem qlt (W:World) (h:SHd) (hs:IsSp W h (spG qu)):Calls Tryz.prog 61 #[.agg #[.int .i64 3,.int .i64 1,.int .i64 4,.int .i64 0,.slice h.na 5 h.nc,.slice h.la 3 h.lc,.slice h.aa 3 h.ac,.slice h.ra 4 h.rc]] W fun e w'=>∃ fb,e=.returned (.slice (some ⟨fb,0,none⟩) 5 5)/\w'.cell? ⟨fb,4,none⟩=some (.bool true)/\w'.cell? ⟨fb,3,none⟩=some (.bool false)/\Below W.heap.size W w':=by
 have:=qb6 W h (spG qu) 5 (by rw [xy];rfl) (qei qb4 qdl qc4) hs
 unfold sv at this
 rw [qmf] at this
 refine this.mono ?_
 rintro e w' ⟨fb,fd,rfl,hl,ho,ht,hb⟩
 have c4:=qc3 ho hl (show 4<5 by omega)
 have c3:=qc3 ho hl (show 3<5 by omega)
 have e4:isF fd 4=true:=(qav ht (by omega)).2 qic
 have e3:isF fd 3=false:=by
  cases hx:isF fd 3
  ·rfl
  ·exact absurd ((qav ht (by omega)).1 hx) qop
 rw [e4] at c4
 rw [e3] at c3
 exact ⟨fb,rfl,c4,c3,hb⟩
theorem qks (w:World) (hp:Pow w):Calls Tryz.prog 52 #[] w fun e w'=>e=.returned (.bool true)/\Below w.heap.size w w':=by
 have HP:Hid (Pow w):=hp
 clear hp
 have HSM:Hid (∀ V:World,Calls Tryz.prog 25 #[] V fun e w'=>∃ ta tc ra rc,e=.returned (.agg #[.slice ta 3 tc,.string ⟨#[]⟩,.int .i64 0,.slice ra 3 rc])/\(∃ qs,OwnG w' V.heap.size ⟨ta,tc,ra,rc⟩ qu qs)/\Below V.heap.size V w'):=fun V=>(qdb V).mono (fun e w' ⟨⟨ta,tc,ra,rc⟩,qs,he,ho,hb⟩=>⟨ta,tc,ra,rc,he,⟨qs,ho⟩,hb⟩)
 go_enter Tryz.func52,Tryz.ntmps52
 go_wp2_with fail
 refine (HSM.out _).mono ?_
 rintro e V1 ⟨ta,tc,ra0,rc0,rfl,ho1,hB1⟩
 have H1:Hid ((∃ qs,OwnG V1 w.heap.size ⟨ta,tc,ra0,rc0⟩ qu qs)/\Below w.heap.size w V1):=⟨ho1,hB1⟩
 have HC:Hid (Calls Tryz.prog 73 #[.agg #[.slice ta 3 tc,.string ⟨#[]⟩,.int .i64 0,.slice ra0 3 rc0]] V1 fun e w'=>∃ na nc la lc aa ac ra rc,e=.returned (.tuple #[.agg #[.int .i64 3,.int .i64 1,.int .i64 4,.int .i64 0,.slice na 5 nc,.slice la 3 lc,.slice aa 3 ac,.slice ra 4 rc],.int .i64 0])/\(IsSp w' ⟨na,nc,la,lc,aa,ac,ra,rc⟩ (spG qu)/\4<=rc/\rc<=9223372036854775807)/\Below V1.heap.size V1 w'):=by
  obtain ⟨qs,ho⟩:=ho1
  exact qkr V1 ⟨ta,tc,ra0,rc0⟩ (ho.isG qan)
 clear ho1 hB1
 go_wp2_with fail
 refine HC.out.mono ?_
 rintro e V2 ⟨na,nc,la,lc,aa,ac,ra,rc,rfl,⟨hs,hl1,hl2⟩,hB2⟩
 have hv:Below V2.heap.size V2 (V2.alloc (.cells #[.int .i64 3,.int .i64 1,.int .i64 4,.int .i64 0,.slice na 5 nc,.slice la 3 lc,.slice aa 3 ac,.slice ra 4 rc] 31)):=qb _ _
 have hx:(V2.alloc (.cells #[.int .i64 3,.int .i64 1,.int .i64 4,.int .i64 0,.slice na 5 nc,.slice la 3 lc,.slice aa 3 ac,.slice ra 4 rc] 31)).heap[V2.heap.size]?=some (.cells #[.int .i64 3,.int .i64 1,.int .i64 4,.int .i64 0,.slice na 5 nc,.slice la 3 lc,.slice aa 3 ac,.slice ra 4 rc] 31 (0,0)):=heap_alloc_new _ _
 have H2:Hid (IsSp (V2.alloc (.cells #[.int .i64 3,.int .i64 1,.int .i64 4,.int .i64 0,.slice na 5 nc,.slice la 3 lc,.slice aa 3 ac,.slice ra 4 rc] 31)) ⟨na,nc,la,lc,aa,ac,ra,rc⟩ (spG qu)/\(V2.alloc (.cells #[.int .i64 3,.int .i64 1,.int .i64 4,.int .i64 0,.slice na 5 nc,.slice la 3 lc,.slice aa 3 ac,.slice ra 4 rc] 31)).heap[V2.heap.size]?=some (.cells #[.int .i64 3,.int .i64 1,.int .i64 4,.int .i64 0,.slice na 5 nc,.slice la 3 lc,.slice aa 3 ac,.slice ra 4 rc] 31 (0,0))/\Below w.heap.size w (V2.alloc (.cells #[.int .i64 3,.int .i64 1,.int .i64 4,.int .i64 0,.slice na 5 nc,.slice la 3 lc,.slice aa 3 ac,.slice ra 4 rc] 31))):=⟨hs.below hv,hx,qd (qd H1.out.2 hB2) hv⟩
 clear hs hv hx hB2 HC H1
 go_upto_region 2 with fail
 generalize V2.alloc (.cells #[.int .i64 3,.int .i64 1,.int .i64 4,.int .i64 0,.slice na 5 nc,.slice la 3 lc,.slice aa 3 ac,.slice ra 4 rc] 31)=V3 at H2 ⊢
 generalize V2.heap.size=sb at H2 ⊢
 go_wp2_with fail
 refine (HSM.out _).mono ?_
 rintro e V4 ⟨ta2,tc2,ra2,rc2,rfl,⟨qs2,ho2⟩,hB4⟩
 have hv:Below V4.heap.size V4 (V4.alloc (.cells #[.slice ta2 3 tc2,.string ⟨#[]⟩,.int .i64 0,.slice ra2 3 rc2] 25)):=qb _ _
 have hx:(V4.alloc (.cells #[.slice ta2 3 tc2,.string ⟨#[]⟩,.int .i64 0,.slice ra2 3 rc2] 25)).heap[V4.heap.size]?=some (.cells #[.slice ta2 3 tc2,.string ⟨#[]⟩,.int .i64 0,.slice ra2 3 rc2] 25 (0,0)):=heap_alloc_new _ _
 have HV5:Hid (OwnG (V4.alloc (.cells #[.slice ta2 3 tc2,.string ⟨#[]⟩,.int .i64 0,.slice ra2 3 rc2] 25)) V3.heap.size ⟨ta2,tc2,ra2,rc2⟩ qu qs2/\(V4.alloc (.cells #[.slice ta2 3 tc2,.string ⟨#[]⟩,.int .i64 0,.slice ra2 3 rc2] 25)).heap[V4.heap.size]?=some (.cells #[.slice ta2 3 tc2,.string ⟨#[]⟩,.int .i64 0,.slice ra2 3 rc2] 25 (0,0))/\Below V3.heap.size V3 (V4.alloc (.cells #[.slice ta2 3 tc2,.string ⟨#[]⟩,.int .i64 0,.slice ra2 3 rc2] 25))/\V3.heap.size<=V4.heap.size):=⟨ho2.below hv,hx,qd hB4 hv,hB4.size⟩
 clear ho2 hv hx hB4 HSM
 go_upto_region 3 with fail
 generalize V4.alloc (.cells #[.slice ta2 3 tc2,.string ⟨#[]⟩,.int .i64 0,.slice ra2 3 rc2] 25)=V5 at HV5 ⊢
 generalize V4.heap.size=gb at HV5 ⊢
 have hv:Below V5.heap.size V5 (V5.alloc (.cells #[.string ⟨#[120]⟩] 9)):=qb _ _
 have ownx:OwnS (V5.alloc (.cells #[.string ⟨#[120]⟩] 9)) V3.heap.size (.slice (some ⟨V5.heap.size,0,none⟩) 1 1) [bX]:=vz V5 V3.heap.size 9 1 1 [.string bX] HV5.out.2.2.1.size rfl (by omega)
 obtain ⟨g,c,V6,hr1,ho6,hk6,far6⟩:=(HV5.out.1.below hv).addRu (⟨bX,[bX],e0⟩,some ⟨V5.heap.size,0,none⟩,1) 3 rfl ownx (by rw [qt];have:=HV5.out.2.2.1.size;omega) (by omega)
 have hr1':(Builtin.append_ #[23,23] 23 #[.slice ra2 3 rc2,.slice (some ⟨V5.heap.size+1,0,none⟩) 1 1]).run Tryz.prog ((V5.alloc (.cells #[.string ⟨#[120]⟩] 9)).alloc (.cells #[.string ⟨#[120]⟩,.slice (some ⟨V5.heap.size,0,none⟩) 1 1,.string ⟨#[]⟩] 55))=.ok (.slice (some ⟨g,0,none⟩) 4 c) V6:=by
  rw [qt] at hr1
  exact hr1
 have hbx6:=far6 gb 25 _ (qf hv HV5.out.2.1) (by decide)
 have p3:V5.cell? ⟨gb,3,none⟩=some (.slice ra2 3 rc2):=(box4 HV5.out.2.1).2.2.2
 have y3:V6.cell? ⟨gb,3,none⟩=some (.slice ra2 3 rc2):=(box4 hbx6).2.2.2
 have f3:V6.frozen? ⟨gb,3,none⟩=false:=qi hbx6 3
 have HV7:Hid (OwnG (V6.setCell ⟨gb,3,none⟩ (.slice (some ⟨g,0,none⟩) 4 c)) V3.heap.size ⟨ta2,tc2,some ⟨g,0,none⟩,c⟩ qa5 (qs2++[(⟨bX,[bX],e0⟩,some ⟨V5.heap.size,0,none⟩,1)])/\(V6.setCell ⟨gb,3,none⟩ (.slice (some ⟨g,0,none⟩) 4 c)).heap[gb]?=some (.cells #[.slice ta2 3 tc2,.string ⟨#[]⟩,.int .i64 0,.slice (some ⟨g,0,none⟩) 4 c] 25 (0,0))/\Below V3.heap.size V3 (V6.setCell ⟨gb,3,none⟩ (.slice (some ⟨g,0,none⟩) 4 c))):=by
  have hne:∀ {E k n:Nat} {v:Value} {cs:List Value},V6.ownsRow V3.heap.size E k v n cs->E≠25->(V6.setCell ⟨gb,3,none⟩ (.slice (some ⟨g,0,none⟩) 4 c)).ownsRow V3.heap.size E k v n cs:=fun ho hE=>qh ho (fun i hi=>Below.heap_setCell _ _ _ _ (qr (qx ho hi) ⟨_,hbx6⟩ hE))
  refine ⟨⟨hne ho6.tok (by decide),hne ho6.rul (by decide),ho6.map,fun q hq=>hne (ho6.row q hq) (by decide)⟩,?_,?_⟩
  ·rw [qko _ hbx6]
   rfl
  ·refine ((qd HV5.out.2.2.1 hv).trans (hk6.below (qd HV5.out.2.2.1 hv).size (fun k hk e=>?_))).setCell (p:=⟨gb,3,none⟩) HV5.out.2.2.2 _
   have:=(qw (HV5.out.1.below hv).rul e).1
   omega
 clear hv ownx hr1 ho6 hk6 far6 hbx6 HV5
 go_upto_region 4 with (at_builtin;refine Lib.wpList_append_run _ rfl _ _ _ _ rfl _ _ rfl rfl _ _ hr1' ?_)
 generalize V6.setCell ⟨gb,3,none⟩ (.slice (some ⟨g,0,none⟩) 4 c)=V7 at HV7 ⊢
 clear hr1' p3 y3 f3
 obtain ⟨p0,p1,p2,p3⟩:=box4 HV7.out.2.1
 have HC:Hid (Calls Tryz.prog 73 #[.agg #[.slice ta2 3 tc2,.string ⟨#[]⟩,.int .i64 0,.slice (some ⟨g,0,none⟩) 4 c]] V7 fun e w'=>e=.returned (.tuple #[.agg zC,.int .i64 8])/\Below V7.heap.size V7 w'):=qfb qa5 8 V7 ⟨ta2,tc2,some ⟨g,0,none⟩,c⟩ (HV7.out.1.isG qls) qqf (by decide)
 unfold zC sC at HC
 go_wp2_with fail
 refine HC.out.mono ?_
 rintro e V8 ⟨rfl,hB8⟩
 have H8:Hid (Below V3.heap.size V3 V8):=qd HV7.out.2.2 hB8
 clear hB8 HC HV7 p0 p1 p2 p3
 have HC:Hid (∀ V:World,Calls Tryz.prog 73 #[.agg #[.slice none 0 0,.string ⟨#[]⟩,.int .i64 0,.slice none 0 0]] V fun e w'=>e=.returned (.tuple #[.agg zC,.int .i64 7])/\Below V.heap.size V w'):=fun V=>qfb qje 7 V ⟨none,0,none,0⟩ (qqp V) qrq (by decide)
 unfold zC sC at HC
 go_wp2_with fail
 refine (HC.out _).mono ?_
 rintro e V9 ⟨rfl,hB9⟩
 have hw9:=qf (qd H8.out (qd (qb _ _) hB9)) H2.out.2.1
 have H9:Hid (IsSp V9 ⟨na,nc,la,lc,aa,ac,ra,rc⟩ (spG qu)/\V9.heap[sb]?=some (.cells #[.int .i64 3,.int .i64 1,.int .i64 4,.int .i64 0,.slice na 5 nc,.slice la 3 lc,.slice aa 3 ac,.slice ra 4 rc] 31 (0,0))/\Below w.heap.size w V9):=⟨H2.out.1.below (qd H8.out (qd (qb _ _) hB9)),hw9,qd H2.out.2.2 (qd H8.out (qd (qb _ _) hB9))⟩
 clear hw9 hB9 HC H8 H2
 have hv:Below V9.heap.size V9 (V9.alloc (.cells zC 31)):=qb _ _
 have HA:Hid (IsSp (V9.alloc (.cells zC 31)) ⟨na,nc,la,lc,aa,ac,ra,rc⟩ (spG qu)/\(V9.alloc (.cells zC 31)).heap[sb]?=some (.cells #[.int .i64 3,.int .i64 1,.int .i64 4,.int .i64 0,.slice na 5 nc,.slice la 3 lc,.slice aa 3 ac,.slice ra 4 rc] 31 (0,0))/\Below w.heap.size w (V9.alloc (.cells zC 31))):=⟨H9.out.1.below hv,qf hv H9.out.2.1,qd H9.out.2.2 hv⟩
 unfold zC sC at HA
 clear hv
 go_upto_region 6 with fail
 obtain ⟨VA,hVA⟩:∃ VA,VA=V9.alloc (.cells #[.int .i64 ((0:Nat):Int),.int .i64 ((0:Nat):Int),.int .i64 ((0:Nat):Int),.int .i64 0,.slice none ([]:List ByteArray).length 0,.slice none ([]:List Int).length 0,.slice none ([]:List Int).length 0,.slice none ([]:List SR).length 0] 31):=⟨_,rfl⟩
 rw [<-hVA] at HA
 have hVA':V9.alloc (.cells #[.int .i64 0,.int .i64 0,.int .i64 0,.int .i64 0,.slice none 0 0,.slice none 0 0,.slice none 0 0,.slice none 0 0] 31)=VA:=hVA.symm
 rw [hVA']
 clear hVA hVA' H9
 obtain ⟨c0,c1,c2,c3,c4,c5,c6,c7⟩:=box8 HA.out.2.1
 have HY:Hid (Calls Tryz.prog 61 #[.agg #[.int .i64 3,.int .i64 1,.int .i64 4,.int .i64 0,.slice na 5 nc,.slice la 3 lc,.slice aa 3 ac,.slice ra 4 rc]] VA fun e w'=>∃ fb,e=.returned (.slice (some ⟨fb,0,none⟩) 5 5)/\w'.cell? ⟨fb,4,none⟩=some (.bool true)/\w'.cell? ⟨fb,3,none⟩=some (.bool false)/\Below VA.heap.size VA w'):=qlt VA ⟨na,nc,la,lc,aa,ac,ra,rc⟩ HA.out.1
 go_wp2_with fail
 refine HY.out.mono ?_
 rintro e VB ⟨fb,rfl,y4,y3,hBB⟩
 have HB:Hid (VB.heap[sb]?=some (.cells #[.int .i64 3,.int .i64 1,.int .i64 4,.int .i64 0,.slice na 5 nc,.slice la 3 lc,.slice aa 3 ac,.slice ra 4 rc] 31 (0,0))/\Below w.heap.size w VB/\VB.cell? ⟨fb,4,none⟩=some (.bool true)/\VB.cell? ⟨fb,3,none⟩=some (.bool false)):=⟨qf hBB HA.out.2.1,qd HA.out.2.2 hBB,y4,y3⟩
 clear c0 c1 c2 c3 c4 c5 c6 c7 HY HA hBB y4 y3
 go_wp2_with fail
 refine (qi9 VB (HP.out.below HB.out.2.1)).mono ?_
 rintro e VC ⟨rfl,hBC⟩
 obtain ⟨c0,c1,c2,c3,c4,c5,c6,c7⟩:=box8 (qf hBC HB.out.1)
 have y4:=qj hBC HB.out.2.2.1
 have y3:=qj hBC HB.out.2.2.2
 have HE:Hid (Below w.heap.size w VC):=qd HB.out.2.1 hBC
 clear hBC HB
 go_wp2_with fail
 go_ret
 exact ⟨rfl,HE.out⟩
theorem qqq {rs:List Ru} (hne:rs≠[]) {x:ByteArray} (hx:(lfs rs)[0]?=some x):((rs[0]?).map (·.l)).getD e0=x:=by
 have pre:∀ (rs:List Ru) (l:List ByteArray) (x:ByteArray),l[0]?=some x->(rs.foldl lfS l)[0]?=some x:=by
  intro rs
  induction rs with
  | nil=>intro l x h;exact h
  | cons r rs ih =>
   intro l x h
   rw [List.foldl_cons]
   refine ih _ x ?_
   unfold lfS
   split
   ·exact h
   ·rw [List.getElem?_append_left (List.getElem?_eq_some_iff.1 h).1];exact h
 cases rs with
 | nil=>exact absurd rfl hne
 | cons r rs =>
  have h1:(lfs (r :: rs))[0]?=some r.l:=pre rs (lfS [] r) r.l rfl
  rw [hx] at h1
  cases h1
  rfl
theorem qo0 (G:Gm) (h:Hd) (w:World) (k:Int) (hG:IsG w h G) (hk:OfR G k):Calls Tryz.prog 10 #[gv h G] w fun e w'=>((k≠0/\e=.returned (.tuple #[.agg zC,.int .i64 k]))\/(k=0/\∃ h',e=.returned (.tuple #[sv h' (spG G),.int .i64 0])/\IsSp w' h' (spG G)))/\Below w.heap.size w w':=by
 have hs1:G.ts.length<=100:=hG.small.nt
 have hs2:G.rs.length<=200:=hG.small.nr
 have hm2:=kj hG.rul
 have HG:Hid (IsG w h G):=hG
 have HK:Hid (OfR G k):=hk
 clear hG hk
 obtain ⟨bm,hbm⟩:=zr (MayP G)
 have HBM:Hid (bm=true↔MayP G):=hbm
 have HMC:Hid (∀ V,Below w.heap.size w V->Calls Tryz.prog 28 #[gv h G] V fun e w'=>e=.returned (.bool bm)/\Below V.heap.size V w'):=fun V hV=>qm3 G h V bm (HG.out.below hV) HBM.out
 obtain ⟨bl,hbl⟩:=zr (kz G)
 have HBL:Hid (bl=true↔kz G):=hbl
 have HLC:Hid (∀ V,Below w.heap.size w V->Calls Tryz.prog 29 #[gv h G] V fun e w'=>e=.returned (.bool bl)/\Below V.heap.size V w'):=fun V hV=>qlj G h V (HG.out.below hV) bl HBL.out
 obtain ⟨bn,hbn⟩:=zr (NmP G)
 have HBN:Hid (bn=true↔NmP G):=hbn
 have HNC:Hid (∀ V,Below w.heap.size w V->Calls Tryz.prog 30 #[gv h G] V fun e w'=>e=.returned (.bool bn)/\Below V.heap.size V w'):=fun V hV=>qka G h V (HG.out.below hV) bn HBN.out
 obtain ⟨m,HM⟩:∃ m,Hid ((lfs G.rs).length=m):=⟨_,rfl⟩
 have hm9:m<=200:=by have:=j9 G.rs;have:=HM.out;omega
 have HLF:Hid (∀ V,Below w.heap.size w V->Calls Tryz.prog 31 #[gv h G] V fun e w'=>∃ ao c,e=.returned (.slice ao m c)/\Row w' 1 ao m c (strC (lfs G.rs))/\Below V.heap.size V w'):=fun V hV=>by
  have:=qb9 G h V (HG.out.below hV)
  rw [HM.out] at this
  exact this.mono (fun e w' ⟨ao,c,he,ho,hb⟩=>⟨ao,c,he,Row.of_own ho,hb⟩)
 clear hbm hbl hbn
 obtain ⟨ta,tc,ra,rc⟩:=h
 unfold gv at HMC HLC HNC HLF ⊢
 simp only at hm2 HMC HLC HNC HLF ⊢
 have hm1:G.ts.length<=tc/\tc<=9223372036854775807:=by have h1:=HG.out.tok.le;have h2:=HG.out.tok.max;simp only at h1 h2;unfold maxLen at h2;omega
 have hB1:Below w.heap.size w ((w.alloc (.cells #[.slice ta G.ts.length tc,.string G.s,.int .i64 G.e,.slice ra G.rs.length rc] 25)).alloc (.cells zC 31)):=qd (qb _ _) (qb _ _)
 have hg1:((w.alloc (.cells #[.slice ta G.ts.length tc,.string G.s,.int .i64 G.e,.slice ra G.rs.length rc] 25)).alloc (.cells zC 31)).heap[w.heap.size]?=some (.cells #[.slice ta G.ts.length tc,.string G.s,.int .i64 G.e,.slice ra G.rs.length rc] 25 (0,0)):=qf (qb _ _) (heap_alloc_new _ _)
 have hg2:((w.alloc (.cells #[.slice ta G.ts.length tc,.string G.s,.int .i64 G.e,.slice ra G.rs.length rc] 25)).alloc (.cells zC 31)).heap[w.heap.size+1]?=some (.cells zC 31 (0,0)):=by
  have:=heap_alloc_new (w.alloc (.cells #[.slice ta G.ts.length tc,.string G.s,.int .i64 G.e,.slice ra G.rs.length rc] 25)) (.cells zC 31)
  rwa [qt] at this
 obtain ⟨tn,HTN⟩:∃ tn,Hid (G.ts.length=tn):=⟨_,rfl⟩
 obtain ⟨rn,HRN⟩:∃ rn,Hid (G.rs.length=rn):=⟨_,rfl⟩
 rw [HTN.out] at hs1 hm1 HMC HLC HNC HLF hB1 hg1 hg2 ⊢
 rw [HRN.out] at hs2 hm2 HMC HLC HNC HLF hB1 hg1 hg2 ⊢
 go_enter Tryz.func10,Tryz.ntmps10
 go_upto_region 1 with fail
 have ez:(w.alloc (.cells #[.slice ta tn tc,.string G.s,.int .i64 G.e,.slice ra rn rc] 25)).alloc (.cells #[.int .i64 0,.int .i64 0,.int .i64 0,.int .i64 0,.slice none 0 0,.slice none 0 0,.slice none 0 0,.slice none 0 0] 31)=(w.alloc (.cells #[.slice ta tn tc,.string G.s,.int .i64 G.e,.slice ra rn rc] 25)).alloc (.cells zC 31):=rfl
 rw [ez]
 generalize (w.alloc (.cells #[.slice ta tn tc,.string G.s,.int .i64 G.e,.slice ra rn rc] 25)).alloc (.cells zC 31)=W1 at hB1 hg1 hg2 ⊢
 obtain ⟨gb,HGB⟩:∃ gb,Hid (gb=w.heap.size):=⟨_,rfl⟩
 rw [<-HGB.out] at hg1 hg2 ⊢
 have HRB:Hid (w.heap.size<=gb+1):=by rw [HGB.out];exact Nat.le_succ _
 generalize gb+1=rb at hg2 HRB ⊢
 have HST:Hid (∀ U V:World,(U.heap[gb]?=some (.cells #[.slice ta tn tc,.string G.s,.int .i64 G.e,.slice ra rn rc] 25 (0,0))/\U.heap[rb]?=some (.cells zC 31 (0,0))/\Below w.heap.size w U)->Below U.heap.size U V->(V.heap[gb]?=some (.cells #[.slice ta tn tc,.string G.s,.int .i64 G.e,.slice ra rn rc] 25 (0,0))/\V.heap[rb]?=some (.cells zC 31 (0,0))/\Below w.heap.size w V)):=fun U V h1 h2=>⟨qf h2 h1.1,qf h2 h1.2.1,qd h1.2.2 h2⟩
 have H1:Hid (W1.heap[gb]?=some (.cells #[.slice ta tn tc,.string G.s,.int .i64 G.e,.slice ra rn rc] 25 (0,0))/\W1.heap[rb]?=some (.cells zC 31 (0,0))/\Below w.heap.size w W1):=⟨hg1,hg2,hB1⟩
 obtain ⟨p0,p1,p2,p3⟩:=box4 hg1
 clear ez hB1 hg1 hg2 HGB
 go_wp2_with fail
 refine (HMC.out _ H1.out.2.2).mono ?_
 rintro e W2 ⟨rfl,hB2⟩
 have H2:Hid (W2.heap[gb]?=some (.cells #[.slice ta tn tc,.string G.s,.int .i64 G.e,.slice ra rn rc] 25 (0,0))/\W2.heap[rb]?=some (.cells zC 31 (0,0))/\Below w.heap.size w W2):=HST.out _ _ H1.out hB2
 clear H1 hB2 p0 p1 p2 p3 HMC
 rcases bm with _ | _
 ·have HKV:Hid (k=1):=by
   have hn:¬ MayP G:=fun e=>by have:=HBM.out.2 e;cases this
   rcases HK.out with e | e | e | e | e
   ·exact e.1
   ·exact absurd e.2.1 hn
   ·exact absurd e.2.1 hn
   ·exact absurd e.2.1 hn
   ·exact absurd e.2.1 hn
  obtain ⟨z0,z1,z2,z3,z4,z5,z6,z7⟩:=box8 H2.out.2.1
  obtain ⟨f0,f1,f2,f3,f4,f5,f6,f7⟩:=qa4 H2.out.2.1
  have HF:Hid (∀ v0 v1 v2 v3 v4 v5 v6 v7,Below w.heap.size w (set8 W2 rb v0 v1 v2 v3 v4 v5 v6 v7)):=fun v0 v1 v2 v3 v4 v5 v6 v7=>jd H2.out.2.2 HRB.out
  go_wp2_with fail
  refine bodyPost_ret (v:=.tuple #[.agg zC,.int .i64 1]) (by unfold zC sC;simp [results,Tryz.results10,go_sem, *]) rfl ?_
  exact ⟨.inl ⟨by rw [HKV.out];decide,by rw [HKV.out]⟩,HF.out _ _ _ _ _ _ _ _⟩
 have HMP:Hid (MayP G):=HBM.out.1 rfl
 clear HBM
 obtain ⟨p0,p1,p2,p3⟩:=box4 H2.out.1
 go_wp2_with fail
 refine (HLC.out _ H2.out.2.2).mono ?_
 rintro e W3 ⟨rfl,hB3⟩
 have H3:Hid (W3.heap[gb]?=some (.cells #[.slice ta tn tc,.string G.s,.int .i64 G.e,.slice ra rn rc] 25 (0,0))/\W3.heap[rb]?=some (.cells zC 31 (0,0))/\Below w.heap.size w W3):=HST.out _ _ H2.out hB3
 clear H2 hB3 p0 p1 p2 p3 HLC
 rcases bl with _ | _
 rotate_left
 ·have HKV:Hid (k=6):=by
   have hn:kz G:=HBL.out.1 rfl
   have hm:MayP G:=HMP.out
   rcases HK.out with e | e | e | e | e
   ·exact absurd hm e.2
   ·exact e.1
   ·exact absurd hn e.2.2.1
   ·exact absurd hn e.2.2.1
   ·exact absurd hn e.2.2.1
  obtain ⟨z0,z1,z2,z3,z4,z5,z6,z7⟩:=box8 H3.out.2.1
  obtain ⟨f0,f1,f2,f3,f4,f5,f6,f7⟩:=qa4 H3.out.2.1
  have HF:Hid (∀ v0 v1 v2 v3 v4 v5 v6 v7,Below w.heap.size w (set8 W3 rb v0 v1 v2 v3 v4 v5 v6 v7)):=fun v0 v1 v2 v3 v4 v5 v6 v7=>jd H3.out.2.2 HRB.out
  go_wp2_with fail
  refine bodyPost_ret (v:=.tuple #[.agg zC,.int .i64 6]) (by unfold zC sC;simp [results,Tryz.results10,go_sem, *]) rfl ?_
  exact ⟨.inl ⟨by rw [HKV.out];decide,by rw [HKV.out]⟩,HF.out _ _ _ _ _ _ _ _⟩
 have HLN:Hid (¬ kz G):=fun e=>by have:=HBL.out.2 e;cases this
 clear HBL
 obtain ⟨p0,p1,p2,p3⟩:=box4 H3.out.1
 go_wp2_with fail
 refine (HNC.out _ H3.out.2.2).mono ?_
 rintro e W4 ⟨rfl,hB4⟩
 have H4:Hid (W4.heap[gb]?=some (.cells #[.slice ta tn tc,.string G.s,.int .i64 G.e,.slice ra rn rc] 25 (0,0))/\W4.heap[rb]?=some (.cells zC 31 (0,0))/\Below w.heap.size w W4):=HST.out _ _ H3.out hB4
 clear H3 hB4 p0 p1 p2 p3 HNC
 rcases bn with _ | _
 ·have HKV:Hid (k=7):=by
   have hl:¬ kz G:=HLN.out
   have hn:¬ NmP G:=fun e=>by have:=HBN.out.2 e;cases this
   have hm:MayP G:=HMP.out
   rcases HK.out with e | e | e | e | e
   ·exact absurd hm e.2
   ·exact absurd e.2.2 hl
   ·exact e.1
   ·exact absurd e.2.2.2.1 hn
   ·exact absurd e.2.2.2.1 hn
  obtain ⟨z0,z1,z2,z3,z4,z5,z6,z7⟩:=box8 H4.out.2.1
  obtain ⟨f0,f1,f2,f3,f4,f5,f6,f7⟩:=qa4 H4.out.2.1
  have HF:Hid (∀ v0 v1 v2 v3 v4 v5 v6 v7,Below w.heap.size w (set8 W4 rb v0 v1 v2 v3 v4 v5 v6 v7)):=fun v0 v1 v2 v3 v4 v5 v6 v7=>jd H4.out.2.2 HRB.out
  go_wp2_with fail
  refine bodyPost_ret (v:=.tuple #[.agg zC,.int .i64 7]) (by unfold zC sC;simp [results,Tryz.results10,go_sem, *]) rfl ?_
  exact ⟨.inl ⟨by rw [HKV.out];decide,by rw [HKV.out]⟩,HF.out _ _ _ _ _ _ _ _⟩
 have HNP:Hid (NmP G):=HBN.out.1 rfl
 clear HBN
 obtain ⟨p0,p1,p2,p3⟩:=box4 H4.out.1
 go_wp2_with fail
 refine (HLF.out _ H4.out.2.2).mono ?_
 rintro e w5 ⟨lo,lc,rfl,hrow,hB5⟩
 have hml:=ze hrow
 have H5:Hid ((w5.heap[gb]?=some (.cells #[.slice ta tn tc,.string G.s,.int .i64 G.e,.slice ra rn rc] 25 (0,0))/\w5.heap[rb]?=some (.cells zC 31 (0,0))/\Below w.heap.size w w5)/\Row w5 1 lo m lc (strC (lfs G.rs))):=⟨HST.out _ _ H4.out hB5,hrow⟩
 clear H4 hB5 p0 p1 p2 p3 HLF hrow
 obtain ⟨p0,p1,p2,p3⟩:=box4 H5.out.1.1
 have hv:Below w5.heap.size w5 (w5.alloc (.cells #[.int .i64 (tn:Int),.int .i64 (m:Int),.int .i64 0,.int .i64 G.e,.slice none 0 0,.slice none 0 0,.slice none 0 0,.slice none 0 0] 31)):=qb _ _
 have H6:Hid (∃ h',SX w5 (w5.alloc (.cells #[.int .i64 (tn:Int),.int .i64 (m:Int),.int .i64 0,.int .i64 G.e,.slice none 0 0,.slice none 0 0,.slice none 0 0,.slice none 0 0] 31)) gb rb w5.heap.size ⟨ta,tc,ra,rc⟩ G h' (ry0 G 0)):=by
  refine ⟨⟨none,0,none,0,none,0,none,0⟩,SB.first ?_ rfl rfl rfl rfl hv (Nat.le_refl _),?_,qf hv H5.out.1.2.1,?_⟩
  ·unfold ry0 sC
   rw [HTN.out,HM.out]
   exact heap_alloc_new _ _
  ·rw [HTN.out,HRN.out]
   exact qf hv H5.out.1.1
  ·have:=(Array.getElem?_eq_some_iff.1 H5.out.1.2.1).1
   omega
 clear hv
 go_upto_region 9 with fail
 generalize w5.alloc (.cells #[.int .i64 (tn:Int),.int .i64 (m:Int),.int .i64 0,.int .i64 G.e,.slice none 0 0,.slice none 0 0,.slice none 0 0,.slice none 0 0] 31)=W6 at H6 ⊢
 obtain ⟨sb,HSB⟩:∃ sb,Hid (sb=w5.heap.size):=⟨_,rfl⟩
 rw [<-HSB.out] at H6 ⊢
 clear p0 p1 p2 p3
 have p0:W6.cell? ⟨gb,0,none⟩=some (.slice ta tn tc):=by
  obtain ⟨h',s⟩:=H6.out
  rw [qe s.gx,HTN.out];rfl
 go_wp2_with fail
 clear p0
 go_loopg [6] tn (fun kx s6 wr=>∃ k:Nat,s6=.int .i64 k/\k<=tn/\tn - k<=kx/\Hid (∃ h',SX w5 wr gb rb sb ⟨ta,tc,ra,rc⟩ G h' (ry0 G k)))
 case atStart=>exact ⟨0,rfl,Nat.zero_le _,by omega,H6⟩
 case round =>
  clear H6
  obtain ⟨j,rfl,hj,hg,J⟩:=hrel
  by_cases hlt:j<tn
  ·have hlt':(j:Int)<(tn:Int):=by omega
   obtain ⟨t,ht⟩:∃ t,G.ts[j]?=some t:=⟨G.ts[j]'(by rw [HTN.out];exact hlt),List.getElem?_eq_getElem _⟩
   have HT:Hid (G.ts[j]?=some t):=ht
   obtain ⟨h',s⟩:=J.out
   have e1:(ry0 G j).nm.length=j:=by unfold ry0;simp;have:=HTN.out;omega
   have e2:(ry0 G j).lv.length=j:=by unfold ry0;simp;have:=HTN.out;omega
   have e3:(ry0 G j).az.length=j:=by unfold ry0;simp;have:=HTN.out;omega
   obtain ⟨b,o,hta,d0,d1,d2⟩:=ja (HG.out.tok.below (qd H5.out.1.2.2 s.sp.bel)) ht
   simp only at hta
   subst hta
   have HTB:Hid (∀ V,Below w5.heap.size w5 V->V.cell? ⟨b,o+j * 3,none⟩=some (.string t.n)/\V.cell? ⟨b,o+j * 3+1,none⟩=some (.int .i64 t.l)/\V.cell? ⟨b,o+j * 3+2,none⟩=some (.int .i64 t.a)):=fun V hV=>by
    obtain ⟨b',o',he,d0,d1,d2⟩:=ja (HG.out.tok.below (qd H5.out.1.2.2 hV)) HT.out
    cases he
    exact ⟨d0,d1,d2⟩
   clear d0 d1 d2 ht J
   obtain ⟨g1,c1,V1,hr1,x1,f1,s1,-⟩:=(s.step (qk wr)).addNm t.n (by omega)
   obtain ⟨-,-,-,-,y1,-,-,-⟩:=sbox s.sp.box
   have q0:wr.cell? ⟨gb,0,none⟩=some (.slice (some ⟨b,o,none⟩) tn tc):=by rw [qe s.gx,HTN.out];rfl
   obtain ⟨d0,d1,d2⟩:=HTB.out _ s.sp.bel
   rw [e1] at hr1 x1 s1 y1
   have hr1':(Builtin.append_ #[28,28] 28 #[.slice h'.na j h'.nc,.slice (some ⟨wr.heap.size,0,none⟩) 1 1]).run Tryz.prog (wr.alloc (.cells #[.string t.n] 9)).drew=.ok (.slice (some ⟨g1,0,none⟩) (j+1) c1) V1:=hr1
   have q0':=qo q0 (.cells #[.string t.n] 9)
   have y1':=qo y1 (.cells #[.string t.n] 9)
   have d0':=qo d0 (.cells #[.string t.n] 9)
   have HS1:Hid (SX w5 (V1.setCell ⟨sb,4,none⟩ (.slice (some ⟨g1,0,none⟩) (j+1) c1)) gb rb sb ⟨some ⟨b,o,none⟩,tc,ra,rc⟩ G ⟨some ⟨g1,0,none⟩,c1,h'.la,h'.lc,h'.aa,h'.ac,h'.ra,h'.rc⟩ ⟨(ry0 G j).tk,(ry0 G j).nt,(ry0 G j).st,(ry0 G j).ex,(ry0 G j).nm++[t.n],(ry0 G j).lv,(ry0 G j).az,(ry0 G j).rs⟩):=s1
   clear s1 s hr1 d1 d2
   obtain ⟨hla,HLA⟩:∃ x,Hid (h'.la=x):=⟨_,rfl⟩
   go_upto_region 12 with fail
   go_cut [6] from 36 to 75 (fun s6 wd=>s6=.int .i64 (j:Int)/\Hid (SX w5 wd gb rb sb ⟨some ⟨b,o,none⟩,tc,ra,rc⟩ G ⟨some ⟨g1,0,none⟩,c1,h'.la,h'.lc,h'.aa,h'.ac,h'.ra,h'.rc⟩ ⟨(ry0 G j).tk,(ry0 G j).nt,(ry0 G j).st,(ry0 G j).ex,(ry0 G j).nm++[t.n],(ry0 G j).lv,(ry0 G j).az,(ry0 G j).rs⟩))
   case first =>
    go_region_law (refine zc rfl (.tmp 44) (.tmp 51) rfl rfl (by simp [Act.eval]) (by simp [Act.eval]) hr1' ?_)
    all_goals (go_wp2_with fail;go_meet;exact ⟨rfl,HS1⟩)
   case rest =>
    obtain ⟨rfl,HS⟩:=hcut
    obtain ⟨Q1,hQ1⟩:∃ Q1,Q1=wc:=⟨_,rfl⟩
    subst wc
    clear HS1 hr1' q0 q0' y1 y1' d0 d0' x1 f1
    obtain ⟨g2,c2,V2,hr2,x2,f2,s2,-⟩:=(HS.out.step (qk Q1)).addLv t.l (by show (ry0 G j).lv.length<10000;omega)
    obtain ⟨-,-,-,-,-,y1,-,-⟩:=sbox HS.out.sp.box
    have q0:Q1.cell? ⟨gb,0,none⟩=some (.slice (some ⟨b,o,none⟩) tn tc):=by rw [qe HS.out.gx,HTN.out];rfl
    obtain ⟨-,d0,-⟩:=HTB.out _ HS.out.sp.bel
    simp only at hr2 x2 s2 y1
    rw [e2] at hr2 x2 s2 y1
    have hr2':(Builtin.append_ #[26,26] 26 #[.slice h'.la j h'.lc,.slice (some ⟨Q1.heap.size,0,none⟩) 1 1]).run Tryz.prog (Q1.alloc (.cells #[.int .i64 t.l] 3)).drew=.ok (.slice (some ⟨g2,0,none⟩) (j+1) c2) V2:=hr2
    have q0':=qo q0 (.cells #[.int .i64 t.l] 3)
    have y1':=qo y1 (.cells #[.int .i64 t.l] 3)
    have d0':=qo d0 (.cells #[.int .i64 t.l] 3)
    have HS2:Hid (SX w5 (V2.setCell ⟨sb,5,none⟩ (.slice (some ⟨g2,0,none⟩) (j+1) c2)) gb rb sb ⟨some ⟨b,o,none⟩,tc,ra,rc⟩ G ⟨some ⟨g1,0,none⟩,c1,some ⟨g2,0,none⟩,c2,h'.aa,h'.ac,h'.ra,h'.rc⟩ ⟨(ry0 G j).tk,(ry0 G j).nt,(ry0 G j).st,(ry0 G j).ex,(ry0 G j).nm++[t.n],(ry0 G j).lv++[t.l],(ry0 G j).az,(ry0 G j).rs⟩):=s2
    clear s2 hr2 HS
    go_upto_region 13 with fail
    go_cut [6] from 36 to 75 (fun s6 wd=>s6=.int .i64 (j:Int)/\Hid (SX w5 wd gb rb sb ⟨some ⟨b,o,none⟩,tc,ra,rc⟩ G ⟨some ⟨g1,0,none⟩,c1,some ⟨g2,0,none⟩,c2,h'.aa,h'.ac,h'.ra,h'.rc⟩ ⟨(ry0 G j).tk,(ry0 G j).nt,(ry0 G j).st,(ry0 G j).ex,(ry0 G j).nm++[t.n],(ry0 G j).lv++[t.l],(ry0 G j).az,(ry0 G j).rs⟩))
    case first =>
     go_region_law (refine zc rfl (.tmp 55) (.tmp 62) rfl rfl (by simp [Act.eval]) (by simp [Act.eval]) hr2' ?_)
     all_goals (go_wp2_with fail;go_meet;exact ⟨rfl,HS2⟩)
    case rest =>
     obtain ⟨rfl,HS⟩:=hcut
     obtain ⟨Q2,hQ2⟩:∃ Q2,Q2=wc:=⟨_,rfl⟩
     subst wc
     clear HS2 hr2' q0 q0' y1 y1' d0 d0' x2 f2
     obtain ⟨g3,c3,V3,hr3,x3,f3,s3⟩:=(HS.out.step (qk Q2)).addAz t.a (by show (ry0 G j).az.length<10000;omega)
     obtain ⟨-,-,-,-,-,-,y1,-⟩:=sbox HS.out.sp.box
     have q0:Q2.cell? ⟨gb,0,none⟩=some (.slice (some ⟨b,o,none⟩) tn tc):=by rw [qe HS.out.gx,HTN.out];rfl
     obtain ⟨-,-,d0⟩:=HTB.out _ HS.out.sp.bel
     simp only at hr3 x3 s3 y1
     rw [e3] at hr3 x3 s3 y1
     have hr3':(Builtin.append_ #[26,26] 26 #[.slice h'.aa j h'.ac,.slice (some ⟨Q2.heap.size,0,none⟩) 1 1]).run Tryz.prog (Q2.alloc (.cells #[.int .i64 t.a] 3)).drew=.ok (.slice (some ⟨g3,0,none⟩) (j+1) c3) V3:=hr3
     have q0':=qo q0 (.cells #[.int .i64 t.a] 3)
     have y1':=qo y1 (.cells #[.int .i64 t.a] 3)
     have d0':=qo d0 (.cells #[.int .i64 t.a] 3)
     have HS3:Hid (∃ h',SX w5 (V3.setCell ⟨sb,6,none⟩ (.slice (some ⟨g3,0,none⟩) (j+1) c3)) gb rb sb ⟨some ⟨b,o,none⟩,tc,ra,rc⟩ G h' (ry0 G (j+1))):=by
      have e:ry0 G (j+1)=⟨(ry0 G j).tk,(ry0 G j).nt,(ry0 G j).st,(ry0 G j).ex,(ry0 G j).nm++[t.n],(ry0 G j).lv++[t.l],(ry0 G j).az++[t.a],(ry0 G j).rs⟩:=by
       unfold ry0
       rw [zn HT.out]
       simp
      rw [<-e] at s3
      exact ⟨_,s3⟩
     clear s3 hr3 HS
     go_upto_region 14 with fail
     go_region_law (refine zc rfl (.tmp 66) (.tmp 73) rfl rfl (by simp [Act.eval]) (by simp [Act.eval]) hr3' ?_)
     all_goals
      go_wp2_with fail
      go_roundg (tn - (j+1))
      case measure=>omega
      case rel=>exact ⟨j+1,by simp,by omega,Nat.le_refl _,HS3⟩
  ·have hlt':¬ (j:Int)<(tn:Int):=by omega
   obtain ⟨W7,hW7⟩:∃ W7,W7=wr:=⟨_,rfl⟩
   subst wr
   obtain ⟨⟨b,o,rfl⟩,hm0⟩:(∃ b o,lo=some ⟨b,o,none⟩)/\0<m:=by
    obtain ⟨x,hx⟩:∃ x,x∈lfs G.rs:=⟨_,HNP.out.st⟩
    obtain ⟨i,hi⟩:=List.getElem?_of_mem hx
    obtain ⟨b,o,he,-⟩:=jm H5.out.2 hi
    have:=(List.getElem?_eq_some_iff.1 hi).1
    rw [HM.out] at this
    exact ⟨⟨b,o,he⟩,by omega⟩
   obtain ⟨h',s⟩:=J.out
   have ej:j=tn:=by omega
   subst ej
   have e1:(ry0 G j).nm.length=j:=by unfold ry0;simp;have:=HTN.out;omega
   obtain ⟨g1,c1,V1,ao,c2,V2,hr1,hr2,x1,f1,s1⟩:=s.two ⟨#[]⟩ (lfs G.rs) b o m lc j e1 HM.out H5.out.2 hm0 (by omega)
   obtain ⟨-,-,-,-,y1,-,-,-⟩:=sbox s.sp.box
   rw [e1] at y1
   have q0:W7.cell? ⟨gb,0,none⟩=some (.slice ta j tc):=by rw [qe s.gx,HTN.out];rfl
   have HS1:Hid (∃ h',SY w5 (V2.setCell ⟨sb,4,none⟩ (.slice ao (j+1+m) c2)) gb rb sb ⟨ta,tc,ra,rc⟩ G h' (sy0 G) []):=by
    have e:sy0 G=⟨(ry0 G j).tk,(ry0 G j).nt,(ry0 G j).st,(ry0 G j).ex,(ry0 G j).nm++⟨#[]⟩ :: lfs G.rs,(ry0 G j).lv,(ry0 G j).az,(ry0 G j).rs⟩:=by
     unfold ry0 sy0 nmG tkG
     rw [show G.ts.take j=G.ts from List.take_of_length_le (by rw [HTN.out];exact Nat.le_refl _)]
     rfl
    rw [<-e] at s1
    exact ⟨_,s1⟩
   clear s1 s J hlt hg hj
   go_upto_region 16 with (first | (at_builtin;refine Lib.wpList_append_run _ rfl _ _ _ _ rfl _ _ rfl rfl _ _ hr1 ?_) | (at_builtin;refine Lib.wpList_append_run _ rfl _ _ _ _ rfl _ _ rfl rfl _ _ hr2 ?_))
   generalize V2.setCell ⟨sb,4,none⟩ (.slice ao (j+1+m) c2)=Q at HS1 ⊢
   clear hr1 hr2 x1 f1 y1 q0
   have p1:Q.cell? ⟨gb,1,none⟩=some (.string G.s):=by
    obtain ⟨h',s⟩:=HS1.out
    rw [qe s.gx];rfl
   have HBQ:Hid (Below w5.heap.size w5 Q):=by
    obtain ⟨h',s⟩:=HS1.out
    exact s.sp.bel
   obtain ⟨bs,hbs⟩:∃ bs,(G.s.toList == [])=bs:=⟨_,rfl⟩
   have HBS:Hid ((G.s.toList == [])=bs):=hbs
   go_upto_if 86 with fail
   clear hbs p1
   go_cut [7] (fun s7 wd=>s7=.string (kc G)/\Hid (wd=Q))
   case first =>
    cases bs
    ·have HE:Hid (kc G=G.s):=by
      show _=_
      unfold kc
      rw [if_neg (fun e=>by have:=(zo G.s).2 e;rw [HBS.out] at this;cases this)]
     go_wp2_with fail
     go_meet
     exact ⟨by rw [HE.out],(rfl:Q=Q)⟩
    ·obtain ⟨x,hx⟩:∃ x,(lfs G.rs)[0]?=some x:=⟨(lfs G.rs)[0]'(by rw [HM.out];exact hm0),List.getElem?_eq_getElem _⟩
     have HE:Hid (kc G=x):=by
      show _=_
      unfold kc
      rw [if_pos (show G.s=e0 from (zo G.s).1 HBS.out)]
      exact qqq HNP.out.ne hx
     obtain ⟨b',o',he,d0⟩:=jm (H5.out.2.below HBQ.out) hx
     cases he
     have d0':Q.cell? ⟨b,o,none⟩=some (.string x):=d0
     clear hx d0
     go_wp2_with fail
     go_meet
     exact ⟨by rw [HE.out],(rfl:Q=Q)⟩
   case rest =>
    obtain ⟨rfl,hwc⟩:=hcut
    obtain rfl:wc=Q:=hwc.out
    clear hwc HBS
    obtain ⟨xi,HXI⟩:∃ xi,Hid (ix (lfs G.rs) (kc G)=xi):=⟨_,rfl⟩
    have hxi:xi<m:=by have:=qeu HNP.out.st;rw [HXI.out,HM.out] at this;exact this
    obtain ⟨st,HSTN⟩:∃ st,Hid (stG G=st):=⟨_,rfl⟩
    have HSE:Hid (((st:Nat):Int)=IntKind.i64.wrap (IntKind.i64.wrap ((j:Int)+1)+(xi:Int))):=by
     show _=_
     have e1:st=j+1+xi:=by
      rw [<-HSTN.out]
      unfold stG
      rw [HXI.out,HTN.out]
     have e2:IntKind.i64.wrap ((j:Int)+1)=(j:Int)+1:=by rw [IntKind.wrap_i64];omega
     have e3:IntKind.i64.wrap ((j:Int)+1+(xi:Int))=(j:Int)+1+(xi:Int):=by rw [IntKind.wrap_i64];omega
     rw [e2,e3,e1]
     simp
    have HPC:Hid (∀ V:World,Row V 1 (some ⟨b,o,none⟩) m lc (strC (lfs G.rs))->Calls Tryz.prog 32 #[.slice (some ⟨b,o,none⟩) m lc,.string (kc G)] V fun e w'=>e=.returned (.int .i64 (xi:Int))/\w'=V):=fun V hV=>by
     have:=qa2 (lfs G.rs) (some ⟨b,o,none⟩) lc (kc G) V (by rw [HM.out];exact hV) (by rw [HM.out];omega)
     rw [HM.out,qc2 HNP.out.st,HXI.out] at this
     exact this
    obtain ⟨W9,hW9⟩:∃ W9,W9=wc:=⟨_,rfl⟩
    subst wc
    go_upto_region 19 with fail
    go_cut [7] (fun s7 wd=>Hid (∃ h',SY w5 wd gb rb sb ⟨ta,tc,ra,rc⟩ G h' (ry1 G) []))
    case first =>
     obtain ⟨h',s⟩:=HS1.out
     have z0:W9.cell? ⟨sb,0,none⟩=some (.int .i64 (j:Int)):=by
      have:=(sbox s.sp.box).1
      rw [this,<-HTN.out]
      rfl
     have z2:W9.cell? ⟨sb,2,none⟩=some (.int .i64 0):=(sbox s.sp.box).2.2.1
     have g2:=(qa4 s.sp.box).2.2.1
     have HF:Hid (∃ h',SY w5 (W9.setCell ⟨sb,2,none⟩ (.int .i64 (IntKind.i64.wrap (IntKind.i64.wrap ((j:Int)+1)+(xi:Int))))).drew gb rb sb ⟨ta,tc,ra,rc⟩ G h' (ry1 G) []):=by
      rw [<-HSE.out,<-HSTN.out]
      exact ⟨h',(s.putSt (stG G)).step (qk _)⟩
     clear s HS1
     go_region_with (first | (go_at_call 32;refine (HPC.out _ (H5.out.2.below (qd HBQ.out (qk _)))).mono ?_;rintro e V7 ⟨rfl,rfl⟩))
     all_goals
      go_wp2_with fail
      go_meet
      exact HF
    case rest =>
     obtain ⟨W10,hW10⟩:∃ W10,W10=wc:=⟨_,rfl⟩
     subst wc
     clear HS1 HPC HBQ
     obtain ⟨h',s⟩:=hcut.out
     have hv:Below W10.heap.size W10 (W10.alloc (.cells #[.int .i64 (st:Int)] 3)):=qb _ _
     have own1:(W10.alloc (.cells #[.int .i64 (st:Int)] 3)).ownsRow w5.heap.size 3 1 (.slice (some ⟨W10.heap.size,0,none⟩) 1 1) 1 (natC [stG G]):=by
      have:=vz W10 w5.heap.size 3 1 1 [.int .i64 (st:Int)] s.sp.bel.size rfl (by omega)
      unfold natC
      rw [HSTN.out]
      exact this
     obtain ⟨g1,c1,V1,hr1,x7,f7,s1⟩:=(s.step hv).addRu (⟨-1,[stG G],0,0⟩,some ⟨W10.heap.size,0,none⟩,1) 0 rfl own1 (by omega)
     rw [qt] at hr1
     have z7:W10.cell? ⟨sb,7,none⟩=some (.slice h'.ra 0 h'.rc):=(sbox s.sp.box).2.2.2.2.2.2.2
     have z2:W10.cell? ⟨sb,2,none⟩=some (.int .i64 (st:Int)):=by
      rw [<-HSTN.out]
      exact (sbox s.sp.box).2.2.1
     have HS:Hid (∃ h' qs,SY w5 (V1.setCell ⟨sb,7,none⟩ (.slice (some ⟨g1,0,none⟩) (0+1) c1)) gb rb sb ⟨ta,tc,ra,rc⟩ G h' (ry2 G 0) qs):=⟨_,_,s1⟩
     clear s s1 own1 hv hcut
     go_upto_region 21 with (at_builtin;refine Lib.wpList_append_run _ rfl _ _ _ _ rfl _ _ rfl rfl _ _ hr1 ?_)
     generalize V1.setCell ⟨sb,7,none⟩ (.slice (some ⟨g1,0,none⟩) (0+1) c1)=W11 at HS ⊢
     clear hr1 x7 f7 z7 z2
     have p3:W11.cell? ⟨gb,3,none⟩=some (.slice ra rn rc):=by
      obtain ⟨h',qs,s⟩:=HS.out
      rw [qe s.gx,HRN.out];rfl
     go_wp2_with fail
     clear p3
     go_loopg [8] rn (fun kx s8 wr=>∃ i:Nat,s8=.int .i64 i/\i<=rn/\rn - i<=kx/\Hid (∃ h' qs,SY w5 wr gb rb sb ⟨ta,tc,ra,rc⟩ G h' (ry2 G i) qs))
     case atStart=>exact ⟨0,rfl,Nat.zero_le _,by omega,HS⟩
     case round =>
      clear HS
      obtain ⟨i,rfl,hi,hg,J⟩:=hrel
      obtain ⟨h',qs,s⟩:=J.out
      obtain ⟨na,nc,la,lc',aa,ac,ra',rc'⟩:=h'
      obtain ⟨nn,HNN⟩:∃ nn,Hid ((nmG G).length=nn):=⟨_,rfl⟩
      have HSR:Hid (sC ⟨na,nc,la,lc',aa,ac,ra',rc'⟩ (ry2 G i)=#[.int .i64 (j:Int),.int .i64 (m:Int),.int .i64 (st:Int),.int .i64 G.e,.slice na nn nc,.slice la j lc',.slice aa j ac,.slice ra' (i+1) rc']):=by
       show _=_
       unfold sC ry2
       rw [HTN.out,HM.out,HSTN.out,HNN.out]
       simp only [List.length_map,List.length_cons,List.length_take,HTN.out,HRN.out]
       rw [Nat.min_eq_left hi]
      have p3:wr.cell? ⟨gb,3,none⟩=some (.slice ra rn rc):=by rw [qe s.gx,HRN.out];rfl
      by_cases hlt2:i<rn
      ·have hlt2':(i:Int)<(rn:Int):=by omega
       obtain ⟨r,hr⟩:∃ r,G.rs[i]?=some r:=⟨G.rs[i]'(by rw [HRN.out];exact hlt2),List.getElem?_eq_getElem _⟩
       obtain ⟨b7,o7,ya,yc,hra,v0,v1,v2,hrow⟩:=(HG.out.rul.below H5.out.1.2.2).at hr
       simp only at hra
       subst hra
       have hb7:b7≠sb:=by have:=World.block_lt_of_cell? _ _ v0;have:=HSB.out;simp only at *;omega
       have HR:Hid (G.rs[i]?=some r):=hr
       have HTR:Hid (∀ V,Below w5.heap.size w5 V->V.cell? ⟨b7,o7+i * 3,none⟩=some (.string r.l)/\V.cell? ⟨b7,o7+i * 3+1,none⟩=some (.slice ya r.r.length yc)/\V.cell? ⟨b7,o7+i * 3+2,none⟩=some (.string r.p)/\Row V 1 ya r.r.length yc (strC r.r)):=fun V hV=>⟨qj hV v0,qj hV v1,qj hV v2,hrow.below hV⟩
       clear v0 v1 v2 hrow
       obtain ⟨d0,d1,d2,hrow⟩:=HTR.out wr s.sp.bel
       obtain ⟨p0,p1,p2,-⟩:=box4 s.gx
       simp only at p0
       rw [HTN.out] at p0
       have hsx:=s.sp.box
       rw [HSR.out] at hsx
       obtain ⟨z0,z1,z2,z3,z4,z5,z6,z7⟩:=box8 hsx
       obtain ⟨rl,HRL⟩:∃ rl,Hid (r.r.length=rl):=⟨_,rfl⟩
       rw [HRL.out] at d1 hrow HTR
       obtain ⟨ql,HQL⟩:∃ ql,Hid ((ruG G r).l=ql):=⟨_,rfl⟩
       obtain ⟨qn,HQN⟩:∃ qn,Hid ((ruG G r).r.length=qn):=⟨_,rfl⟩
       obtain ⟨qv,HQV⟩:∃ qv,Hid ((ruG G r).lv=qv):=⟨_,rfl⟩
       obtain ⟨qa,HQA⟩:∃ qa,Hid ((ruG G r).a=qa):=⟨_,rfl⟩
       have HRC:Hid (Calls Tryz.prog 33 #[.agg #[.slice ta j tc,.string G.s,.int .i64 G.e,.slice (some ⟨b7,o7,none⟩) rn rc],.agg #[.int .i64 (j:Int),.int .i64 (m:Int),.int .i64 (st:Int),.int .i64 G.e,.slice na nn nc,.slice la j lc',.slice aa j ac,.slice ra' (i+1) rc'],.agg #[.string r.l,.slice ya rl yc,.string r.p]] wr.drew fun e w'=>∃ xa xc,e=.returned (.agg #[.int .i64 ql,.slice xa qn xc,.int .i64 qv,.int .i64 qa])/\(w'.ownsRow w5.heap.size 3 1 (.slice xa (ruG G r).r.length xc) (ruG G r).r.length (natC (ruG G r).r)/\SY w5 w' gb rb sb ⟨ta,tc,some ⟨b7,o7,none⟩,rc⟩ G ⟨na,nc,la,lc',aa,ac,ra',rc'⟩ (ry2 G i) qs)):=by
        have s9:=s.step (qk wr)
        have hnm:=s9.sp.isSp.nm
        have:=qlk G ⟨ta,tc,some ⟨b7,o7,none⟩,rc⟩ (ry2 G i) ⟨na,nc,la,lc',aa,ac,ra',rc'⟩ wr.drew (HG.out.below (qd H5.out.1.2.2 s9.sp.bel)) hnm rfl rfl HMP.out HNP.out r (List.mem_of_getElem? hr) ya yc (by rw [HRL.out];exact hrow.below (qk _))
        unfold gv at this
        simp only at this
        rw [HTN.out,HRN.out,HSR.out,HRL.out] at this
        refine this.mono ?_
        rintro e w' ⟨xa,xc,rfl,ho,hb⟩
        exact ⟨xa,xc,by rw [HQL.out,HQN.out,HQV.out,HQA.out],zd ho s9.sp.bel.size,s9.step hb⟩
       have HAD:Hid (∀ (xa:Option Addr) (xc:Nat) (V:World),(V.ownsRow w5.heap.size 3 1 (.slice xa (ruG G r).r.length xc) (ruG G r).r.length (natC (ruG G r).r)/\SY w5 V gb rb sb ⟨ta,tc,some ⟨b7,o7,none⟩,rc⟩ G ⟨na,nc,la,lc',aa,ac,ra',rc'⟩ (ry2 G i) qs)->∃ g c V2,(Builtin.append_ #[29,29] 29 #[.slice ra' (i+1) rc',.slice (some ⟨V.heap.size,0,none⟩) 1 1]).run Tryz.prog (V.alloc (.cells #[.int .i64 ql,.slice xa qn xc,.int .i64 qv,.int .i64 qa] 47))=.ok (.slice (some ⟨g,0,none⟩) (i+1+1) c) V2/\V.cell? ⟨sb,7,none⟩=some (.slice ra' (i+1) rc')/\V2.cell? ⟨sb,7,none⟩=some (.slice ra' (i+1) rc')/\V2.frozen? ⟨sb,7,none⟩=false/\Hid (∃ h' qs,SY w5 (V2.setCell ⟨sb,7,none⟩ (.slice (some ⟨g,0,none⟩) (i+1+1) c)) gb rb sb ⟨ta,tc,some ⟨b7,o7,none⟩,rc⟩ G h' (ry2 G (i+1)) qs)):=fun xa xc V hV=>by
        obtain ⟨ho,sV⟩:=hV
        have en:(ry2 G i).rs.length=i+1:=by
         unfold ry2
         simp only [List.length_map,List.length_cons,List.length_take,HRN.out]
         rw [Nat.min_eq_left hi]
        obtain ⟨g,c,V2,hr1,x7,f7,s1⟩:=sV.addRu (ruG G r,xa,xc) (i+1) en ho (by omega)
        simp only at hr1 x7
        rw [HQL.out,HQN.out,HQV.out,HQA.out] at hr1
        have hsx:=sV.sp.box
        rw [HSR.out] at hsx
        have e:ry2 G (i+1)=⟨(ry2 G i).tk,(ry2 G i).nt,(ry2 G i).st,(ry2 G i).ex,(ry2 G i).nm,(ry2 G i).lv,(ry2 G i).az,(ry2 G i).rs++[ruG G r]⟩:=by
         unfold ry2
         rw [zn HR.out]
         simp
        have hfin:∃ h' qs,SY w5 (V2.setCell ⟨sb,7,none⟩ (.slice (some ⟨g,0,none⟩) (i+1+1) c)) gb rb sb ⟨ta,tc,some ⟨b7,o7,none⟩,rc⟩ G h' (ry2 G (i+1)) qs:=by
         rw [e]
         exact ⟨_,_,s1⟩
        exact ⟨g,c,V2,hr1,(box8 hsx).2.2.2.2.2.2.2,x7,f7,hfin⟩
       have HSV:Hid (∀ (V:World) (h3:SHd) (S3:Sp) (q3:List (SR × Option Addr × Nat)),SY w5 V gb rb sb ⟨ta,tc,some ⟨b7,o7,none⟩,rc⟩ G h3 S3 q3->(V.cell? ⟨gb,0,none⟩=some (.slice ta j tc)/\V.cell? ⟨gb,1,none⟩=some (.string G.s)/\V.cell? ⟨gb,2,none⟩=some (.int .i64 G.e)/\V.cell? ⟨gb,3,none⟩=some (.slice (some ⟨b7,o7,none⟩) rn rc)/\V.cell? ⟨b7,o7+i * 3,none⟩=some (.string r.l)/\V.cell? ⟨b7,o7+i * 3+1,none⟩=some (.slice ya rl yc)/\V.cell? ⟨b7,o7+i * 3+2,none⟩=some (.string r.p))):=fun V h3 S3 q3 sV=>by
        obtain ⟨u0,u1,u2,u3⟩:=box4 sV.gx
        simp only at u0 u3
        rw [HTN.out] at u0
        rw [HRN.out] at u3
        obtain ⟨v0,v1,v2,-⟩:=HTR.out V sV.sp.bel
        exact ⟨u0,u1,u2,u3,v0,v1,v2⟩
       have HSN:Hid (∀ (V:World) (v:Value) (h3:SHd) (S3:Sp) (q3:List (SR × Option Addr × Nat)),SY w5 (V.setCell ⟨sb,7,none⟩ v) gb rb sb ⟨ta,tc,some ⟨b7,o7,none⟩,rc⟩ G h3 S3 q3->(V.cell? ⟨gb,0,none⟩=some (.slice ta j tc)/\V.cell? ⟨gb,1,none⟩=some (.string G.s)/\V.cell? ⟨gb,2,none⟩=some (.int .i64 G.e)/\V.cell? ⟨gb,3,none⟩=some (.slice (some ⟨b7,o7,none⟩) rn rc)/\V.cell? ⟨b7,o7+i * 3,none⟩=some (.string r.l)/\V.cell? ⟨b7,o7+i * 3+1,none⟩=some (.slice ya rl yc)/\V.cell? ⟨b7,o7+i * 3+2,none⟩=some (.string r.p))/\((V.setCell ⟨sb,7,none⟩ v).cell? ⟨gb,0,none⟩=some (.slice ta j tc)/\(V.setCell ⟨sb,7,none⟩ v).cell? ⟨gb,1,none⟩=some (.string G.s)/\(V.setCell ⟨sb,7,none⟩ v).cell? ⟨gb,2,none⟩=some (.int .i64 G.e)/\(V.setCell ⟨sb,7,none⟩ v).cell? ⟨gb,3,none⟩=some (.slice (some ⟨b7,o7,none⟩) rn rc)/\(V.setCell ⟨sb,7,none⟩ v).cell? ⟨b7,o7+i * 3,none⟩=some (.string r.l)/\(V.setCell ⟨sb,7,none⟩ v).cell? ⟨b7,o7+i * 3+1,none⟩=some (.slice ya rl yc)/\(V.setCell ⟨sb,7,none⟩ v).cell? ⟨b7,o7+i * 3+2,none⟩=some (.string r.p))):=fun V v h3 S3 q3 sV=>by
        have hs:=HSV.out _ _ _ _ sV
        have hgs:sb≠gb:=fun e=>qr ⟨_,sV.gx⟩ ⟨_,sV.sp.box⟩ (by decide) e.symm
        have hbs:sb≠b7:=fun e=>hb7 e.symm
        refine ⟨?_,hs⟩
        obtain ⟨k0,k1,k2,k3,k4,k5,k6⟩:=hs
        rw [World.cell?_setCell_far _ _ _ _ hgs] at k0 k1 k2 k3
        rw [World.cell?_setCell_far _ _ _ _ hbs] at k4 k5 k6
        exact ⟨k0,k1,k2,k3,k4,k5,k6⟩
       clear s J hr hrow hsx HSR
       go_upto_region 24 with fail
       refine wp_region_held_drew (S:=(fun w'=>w'.cell? ⟨gb,0,none⟩=some (.slice ta j tc)/\w'.cell? ⟨gb,1,none⟩=some (.string G.s)/\w'.cell? ⟨gb,2,none⟩=some (.int .i64 G.e)/\w'.cell? ⟨gb,3,none⟩=some (.slice (some ⟨b7,o7,none⟩) rn rc)/\w'.cell? ⟨b7,o7+i * 3,none⟩=some (.string r.l)/\w'.cell? ⟨b7,o7+i * 3+1,none⟩=some (.slice ya rl yc)/\w'.cell? ⟨b7,o7+i * 3+2,none⟩=some (.string r.p))) (by kernel_rfl) ⟨p0,p1,p2,p3,d0,d1,d2⟩ (fun hHeld=>?_)
       refine wpAnyH_take (i:=0) (v:=(.pointer (some ⟨sb,7,none⟩))) rfl (by kernel_rfl) (by kernel_rfl) (by kernel_rfl) (fun _ _ _ h=>h) (Or.inl ⟨by rfl,fun w9 hSw=>?_⟩) hHeld ?_
       ·obtain ⟨hs0,hs1,hs2,hs3,hs4,hs5,hs6⟩:=hSw
        go_simp
        try (with_reducible rfl)
       simp only [Act.put]
       refine wpAnyH_take (i:=2) (v:=(.agg #[.slice ta j tc,.string G.s,.int .i64 G.e,.slice (some ⟨b7,o7,none⟩) rn rc])) rfl (by kernel_rfl) (by kernel_rfl) (by kernel_rfl) (fun _ _ _ h=>h) (Or.inl ⟨by rfl,fun w9 hSw=>?_⟩) hHeld ?_
       ·obtain ⟨hs0,hs1,hs2,hs3,hs4,hs5,hs6⟩:=hSw
        go_simp
        try (with_reducible rfl)
       simp only [Act.put]
       refine wpAnyH_take (i:=4) (v:=(.pointer (some ⟨gb,3,none⟩))) rfl (by kernel_rfl) (by kernel_rfl) (by kernel_rfl) (fun _ _ _ h=>h) (Or.inl ⟨by rfl,fun w9 hSw=>?_⟩) hHeld ?_
       ·obtain ⟨hs0,hs1,hs2,hs3,hs4,hs5,hs6⟩:=hSw
        go_simp
        try (with_reducible rfl)
       simp only [Act.put]
       refine wpAnyH_take (i:=5) (v:=(.slice (some ⟨b7,o7,none⟩) rn rc)) rfl (by kernel_rfl) (by kernel_rfl) (by kernel_rfl) (fun _ _ _ h=>h) (Or.inl ⟨by rfl,fun w9 hSw=>?_⟩) hHeld ?_
       ·obtain ⟨hs0,hs1,hs2,hs3,hs4,hs5,hs6⟩:=hSw
        go_simp
        try (with_reducible rfl)
       simp only [Act.put]
       refine wpAnyH_take (i:=6) (v:=(.int .i64 (i:Int))) rfl (by kernel_rfl) (by kernel_rfl) (by kernel_rfl) (fun _ _ _ h=>h) (Or.inl ⟨by rfl,fun w9 hSw=>?_⟩) hHeld ?_
       ·obtain ⟨hs0,hs1,hs2,hs3,hs4,hs5,hs6⟩:=hSw
        go_simp
        try (with_reducible rfl)
       simp only [Act.put]
       refine wpAnyH_take (i:=7) (v:=(.pointer (some ⟨b7,o7+i * 3,none⟩))) rfl (by kernel_rfl) (by kernel_rfl) (by kernel_rfl) (fun _ _ _ h=>h) (Or.inl ⟨by rfl,fun w9 hSw=>?_⟩) hHeld ?_
       ·obtain ⟨hs0,hs1,hs2,hs3,hs4,hs5,hs6⟩:=hSw
        go_simp
        try (with_reducible rfl)
       simp only [Act.put]
       refine wpAnyH_take (i:=8) (v:=(.agg #[.string r.l,.slice ya rl yc,.string r.p])) rfl (by kernel_rfl) (by kernel_rfl) (by kernel_rfl) (fun _ _ _ h=>h) (Or.inl ⟨by rfl,fun w9 hSw=>?_⟩) hHeld ?_
       ·obtain ⟨hs0,hs1,hs2,hs3,hs4,hs5,hs6⟩:=hSw
        go_simp
        try (with_reducible rfl)
       simp only [Act.put]
       refine wpAnyH_ready (rs:=[1,3]) (by kernel_rfl) (by simp) ?_
       refine AllReadyH.cons rfl (fun K hK=>?_) (AllReadyH.cons rfl (fun K hK=>?_) AllReadyH.nil)
       ·skip
        go_simp
        refine hK.out _ _ ⟨p0,p1,p2,p3,d0,d1,d2⟩ (fun hHeld=>?_)
        clear hK K
        refine wpAnyH_ready (rs:=[3]) (by kernel_rfl) (by simp) ?_
        refine AllReadyH.cons rfl (fun K hK=>?_) AllReadyH.nil
        go_simp
        refine hK.out _ _ ⟨p0,p1,p2,p3,d0,d1,d2⟩ (fun hHeld=>?_)
        clear hK K
        refine wpAnyH_ready (rs:=[9]) (by kernel_rfl) (by simp) ?_
        refine AllReadyH.cons rfl (fun K hK=>?_) AllReadyH.nil
        refine jy rfl 33 #[.agg #[.slice ta j tc,.string G.s,.int .i64 G.e,.slice (some ⟨b7,o7,none⟩) rn rc],.agg #[.int .i64 (j:Int),.int .i64 (m:Int),.int .i64 (st:Int),.int .i64 G.e,.slice na nn nc,.slice la j lc',.slice aa j ac,.slice ra' (i+1) rc'],.agg #[.string r.l,.slice ya rl yc,.string r.p]] (fun xa xc=>.agg #[.int .i64 ql,.slice xa qn xc,.int .i64 qv,.int .i64 qa]) _ (by simp [Act.eval,go_sem]) HRC.out (fun xa xc V hV=>?_)
        obtain ⟨g,c,V2,hr1,y7,x7,f7,HN⟩:=HAD.out xa xc V hV
        have hSV:=HSV.out V _ _ _ hV.2
        obtain ⟨t0,t1,t2,t3,t4,t5,t6⟩:=hSV
        refine hK.out _ _ ⟨t0,t1,t2,t3,t4,t5,t6⟩ (fun hHeld=>?_)
        clear hK K hV
        simp only [Act.put]
        refine wpAnyH_ready (rs:=[10]) (by kernel_rfl) (by simp) ?_
        refine AllReadyH.cons rfl (fun K hK=>?_) AllReadyH.nil
        have y7':=qo y7 (.cells #[.int .i64 ql,.slice xa qn xc,.int .i64 qv,.int .i64 qa] 47)
        go_simp
        refine hK.out _ _ ⟨qo t0 _,qo t1 _,qo t2 _,qo t3 _,qo t4 _,qo t5 _,qo t6 _⟩ (fun hHeld=>?_)
        clear hK K
        refine wpAnyH_ready (rs:=[11]) (by kernel_rfl) (by simp) ?_
        refine AllReadyH.cons rfl (fun K hK=>?_) AllReadyH.nil
        obtain ⟨hq,qq,sN⟩:=HN.out
        have hSN:=HSN.out _ _ _ _ _ sN
        clear sN
        refine zc rfl (.tmp 115) (.tmp 124) rfl rfl (by simp [Act.eval]) (by simp [Act.eval]) hr1 (hK.out _ _ hSN.1 (fun hHeld=>?_))
        simp only [Act.put]
        clear hK K
        refine wpAnyH_take (i:=12) (v:=(.pointer (some ⟨sb,7,none⟩))) rfl (by kernel_rfl) (by kernel_rfl) (by kernel_rfl) (fun _ _ _ h=>h) (Or.inl ⟨by rfl,fun w9 hSw=>?_⟩) hHeld ?_
        ·obtain ⟨hs0,hs1,hs2,hs3,hs4,hs5,hs6⟩:=hSw
         go_simp
         try (with_reducible rfl)
        simp only [Act.put]
        refine wpAnyH_ready (rs:=[13]) (by kernel_rfl) (by simp) ?_
        refine AllReadyH.cons rfl (fun K hK=>?_) AllReadyH.nil
        go_simp
        refine hK.out _ _ hSN.2 (fun hHeld=>?_)
        clear hK K hSN
        refine wpAnyH_done (by kernel_rfl) ?_ _
        go_wp2_with fail
        go_roundg (rn - (i+1))
        case measure=>omega
        case rel=>exact ⟨i+1,by simp,by omega,Nat.le_refl _,HN⟩
       ·skip
        go_simp
        refine hK.out _ _ ⟨p0,p1,p2,p3,d0,d1,d2⟩ (fun hHeld=>?_)
        clear hK K
        refine wpAnyH_ready (rs:=[1,9]) (by kernel_rfl) (by simp) ?_
        refine AllReadyH.cons rfl (fun K hK=>?_) (AllReadyH.cons rfl (fun K hK=>?_) AllReadyH.nil)
        ·skip
         go_simp
         refine hK.out _ _ ⟨p0,p1,p2,p3,d0,d1,d2⟩ (fun hHeld=>?_)
         clear hK K
         refine wpAnyH_ready (rs:=[9]) (by kernel_rfl) (by simp) ?_
         refine AllReadyH.cons rfl (fun K hK=>?_) AllReadyH.nil
         refine jy rfl 33 #[.agg #[.slice ta j tc,.string G.s,.int .i64 G.e,.slice (some ⟨b7,o7,none⟩) rn rc],.agg #[.int .i64 (j:Int),.int .i64 (m:Int),.int .i64 (st:Int),.int .i64 G.e,.slice na nn nc,.slice la j lc',.slice aa j ac,.slice ra' (i+1) rc'],.agg #[.string r.l,.slice ya rl yc,.string r.p]] (fun xa xc=>.agg #[.int .i64 ql,.slice xa qn xc,.int .i64 qv,.int .i64 qa]) _ (by simp [Act.eval,go_sem]) HRC.out (fun xa xc V hV=>?_)
         obtain ⟨g,c,V2,hr1,y7,x7,f7,HN⟩:=HAD.out xa xc V hV
         have hSV:=HSV.out V _ _ _ hV.2
         obtain ⟨t0,t1,t2,t3,t4,t5,t6⟩:=hSV
         refine hK.out _ _ ⟨t0,t1,t2,t3,t4,t5,t6⟩ (fun hHeld=>?_)
         clear hK K hV
         simp only [Act.put]
         refine wpAnyH_ready (rs:=[10]) (by kernel_rfl) (by simp) ?_
         refine AllReadyH.cons rfl (fun K hK=>?_) AllReadyH.nil
         have y7':=qo y7 (.cells #[.int .i64 ql,.slice xa qn xc,.int .i64 qv,.int .i64 qa] 47)
         go_simp
         refine hK.out _ _ ⟨qo t0 _,qo t1 _,qo t2 _,qo t3 _,qo t4 _,qo t5 _,qo t6 _⟩ (fun hHeld=>?_)
         clear hK K
         refine wpAnyH_ready (rs:=[11]) (by kernel_rfl) (by simp) ?_
         refine AllReadyH.cons rfl (fun K hK=>?_) AllReadyH.nil
         obtain ⟨hq,qq,sN⟩:=HN.out
         have hSN:=HSN.out _ _ _ _ _ sN
         clear sN
         refine zc rfl (.tmp 115) (.tmp 124) rfl rfl (by simp [Act.eval]) (by simp [Act.eval]) hr1 (hK.out _ _ hSN.1 (fun hHeld=>?_))
         simp only [Act.put]
         clear hK K
         refine wpAnyH_take (i:=12) (v:=(.pointer (some ⟨sb,7,none⟩))) rfl (by kernel_rfl) (by kernel_rfl) (by kernel_rfl) (fun _ _ _ h=>h) (Or.inl ⟨by rfl,fun w9 hSw=>?_⟩) hHeld ?_
         ·obtain ⟨hs0,hs1,hs2,hs3,hs4,hs5,hs6⟩:=hSw
          go_simp
          try (with_reducible rfl)
         simp only [Act.put]
         refine wpAnyH_ready (rs:=[13]) (by kernel_rfl) (by simp) ?_
         refine AllReadyH.cons rfl (fun K hK=>?_) AllReadyH.nil
         go_simp
         refine hK.out _ _ hSN.2 (fun hHeld=>?_)
         clear hK K hSN
         refine wpAnyH_done (by kernel_rfl) ?_ _
         go_wp2_with fail
         go_roundg (rn - (i+1))
         case measure=>omega
         case rel=>exact ⟨i+1,by simp,by omega,Nat.le_refl _,HN⟩
        ·skip
         refine jy rfl 33 #[.agg #[.slice ta j tc,.string G.s,.int .i64 G.e,.slice (some ⟨b7,o7,none⟩) rn rc],.agg #[.int .i64 (j:Int),.int .i64 (m:Int),.int .i64 (st:Int),.int .i64 G.e,.slice na nn nc,.slice la j lc',.slice aa j ac,.slice ra' (i+1) rc'],.agg #[.string r.l,.slice ya rl yc,.string r.p]] (fun xa xc=>.agg #[.int .i64 ql,.slice xa qn xc,.int .i64 qv,.int .i64 qa]) _ (by simp [Act.eval,go_sem]) HRC.out (fun xa xc V hV=>?_)
         obtain ⟨g,c,V2,hr1,y7,x7,f7,HN⟩:=HAD.out xa xc V hV
         have hSV:=HSV.out V _ _ _ hV.2
         obtain ⟨t0,t1,t2,t3,t4,t5,t6⟩:=hSV
         refine hK.out _ _ ⟨t0,t1,t2,t3,t4,t5,t6⟩ (fun hHeld=>?_)
         clear hK K hV
         simp only [Act.put]
         refine wpAnyH_ready (rs:=[1,10]) (by kernel_rfl) (by simp) ?_
         refine AllReadyH.cons rfl (fun K hK=>?_) (AllReadyH.cons rfl (fun K hK=>?_) AllReadyH.nil)
         ·skip
          go_simp
          refine hK.out _ _ ⟨t0,t1,t2,t3,t4,t5,t6⟩ (fun hHeld=>?_)
          clear hK K
          refine wpAnyH_ready (rs:=[10]) (by kernel_rfl) (by simp) ?_
          refine AllReadyH.cons rfl (fun K hK=>?_) AllReadyH.nil
          have y7':=qo y7 (.cells #[.int .i64 ql,.slice xa qn xc,.int .i64 qv,.int .i64 qa] 47)
          go_simp
          refine hK.out _ _ ⟨qo t0 _,qo t1 _,qo t2 _,qo t3 _,qo t4 _,qo t5 _,qo t6 _⟩ (fun hHeld=>?_)
          clear hK K
          refine wpAnyH_ready (rs:=[11]) (by kernel_rfl) (by simp) ?_
          refine AllReadyH.cons rfl (fun K hK=>?_) AllReadyH.nil
          obtain ⟨hq,qq,sN⟩:=HN.out
          have hSN:=HSN.out _ _ _ _ _ sN
          clear sN
          refine zc rfl (.tmp 115) (.tmp 124) rfl rfl (by simp [Act.eval]) (by simp [Act.eval]) hr1 (hK.out _ _ hSN.1 (fun hHeld=>?_))
          simp only [Act.put]
          clear hK K
          refine wpAnyH_take (i:=12) (v:=(.pointer (some ⟨sb,7,none⟩))) rfl (by kernel_rfl) (by kernel_rfl) (by kernel_rfl) (fun _ _ _ h=>h) (Or.inl ⟨by rfl,fun w9 hSw=>?_⟩) hHeld ?_
          ·obtain ⟨hs0,hs1,hs2,hs3,hs4,hs5,hs6⟩:=hSw
           go_simp
           try (with_reducible rfl)
          simp only [Act.put]
          refine wpAnyH_ready (rs:=[13]) (by kernel_rfl) (by simp) ?_
          refine AllReadyH.cons rfl (fun K hK=>?_) AllReadyH.nil
          go_simp
          refine hK.out _ _ hSN.2 (fun hHeld=>?_)
          clear hK K hSN
          refine wpAnyH_done (by kernel_rfl) ?_ _
          go_wp2_with fail
          go_roundg (rn - (i+1))
          case measure=>omega
          case rel=>exact ⟨i+1,by simp,by omega,Nat.le_refl _,HN⟩
         ·skip
          have y7':=qo y7 (.cells #[.int .i64 ql,.slice xa qn xc,.int .i64 qv,.int .i64 qa] 47)
          go_simp
          refine hK.out _ _ ⟨qo t0 _,qo t1 _,qo t2 _,qo t3 _,qo t4 _,qo t5 _,qo t6 _⟩ (fun hHeld=>?_)
          clear hK K
          refine wpAnyH_ready (rs:=[1]) (by kernel_rfl) (by simp) ?_
          refine AllReadyH.cons rfl (fun K hK=>?_) AllReadyH.nil
          go_simp
          refine hK.out _ _ ⟨qo t0 _,qo t1 _,qo t2 _,qo t3 _,qo t4 _,qo t5 _,qo t6 _⟩ (fun hHeld=>?_)
          clear hK K
          refine wpAnyH_ready (rs:=[11]) (by kernel_rfl) (by simp) ?_
          refine AllReadyH.cons rfl (fun K hK=>?_) AllReadyH.nil
          obtain ⟨hq,qq,sN⟩:=HN.out
          have hSN:=HSN.out _ _ _ _ _ sN
          clear sN
          refine zc rfl (.tmp 115) (.tmp 124) rfl rfl (by simp [Act.eval]) (by simp [Act.eval]) hr1 (hK.out _ _ hSN.1 (fun hHeld=>?_))
          simp only [Act.put]
          clear hK K
          refine wpAnyH_take (i:=12) (v:=(.pointer (some ⟨sb,7,none⟩))) rfl (by kernel_rfl) (by kernel_rfl) (by kernel_rfl) (fun _ _ _ h=>h) (Or.inl ⟨by rfl,fun w9 hSw=>?_⟩) hHeld ?_
          ·obtain ⟨hs0,hs1,hs2,hs3,hs4,hs5,hs6⟩:=hSw
           go_simp
           try (with_reducible rfl)
          simp only [Act.put]
          refine wpAnyH_ready (rs:=[13]) (by kernel_rfl) (by simp) ?_
          refine AllReadyH.cons rfl (fun K hK=>?_) AllReadyH.nil
          go_simp
          refine hK.out _ _ hSN.2 (fun hHeld=>?_)
          clear hK K hSN
          refine wpAnyH_done (by kernel_rfl) ?_ _
          go_wp2_with fail
          go_roundg (rn - (i+1))
          case measure=>omega
          case rel=>exact ⟨i+1,by simp,by omega,Nat.le_refl _,HN⟩
      ·have hlt2':¬ (i:Int)<(rn:Int):=by omega
       have ei:i=rn:=by omega
       subst ei
       obtain ⟨w8,hw8⟩:∃ w8,w8=wr:=⟨_,rfl⟩
       subst wr
       have e9:ry2 G i=spG G:=by rw [<-HRN.out];exact qrp G
       rw [e9] at s HSR
       obtain ⟨n,hnn⟩:∃ n,n=j+1+m:=⟨_,rfl⟩
       have HN9:Hid (n=(spG G).tk+1+(spG G).nt/\(spG G).tk=j):=by
        have e1:(spG G).tk=j:=HTN.out
        have e2:(spG G).nt=m:=HM.out
        refine ⟨?_,e1⟩
        rw [e1,e2]
        exact hnn
       have HNE:Hid (n=j+1+m):=hnn
       clear hnn
       have HYC:Hid (∀ V:World,SY w5 V gb rb sb ⟨ta,tc,ra,rc⟩ G ⟨na,nc,la,lc',aa,ac,ra',rc'⟩ (spG G) qs->Calls Tryz.prog 15 #[.agg #[.int .i64 (j:Int),.int .i64 (m:Int),.int .i64 (st:Int),.int .i64 G.e,.slice na nn nc,.slice la j lc',.slice aa j ac,.slice ra' (i+1) rc']] V fun e w'=>BRes V w' n (Der (spG G)) e):=fun V sV=>by
        have:=qi5 V _ (spG G) n HN9.out.1 (qei HMP.out HLN.out HNP.out) sV.sp.isSp
        unfold sv at this
        rw [HSR.out] at this
        exact this
       have HRC:Hid (∀ V:World,SY w5 V gb rb sb ⟨ta,tc,ra,rc⟩ G ⟨na,nc,la,lc',aa,ac,ra',rc'⟩ (spG G) qs->Calls Tryz.prog 16 #[.agg #[.int .i64 (j:Int),.int .i64 (m:Int),.int .i64 (st:Int),.int .i64 G.e,.slice na nn nc,.slice la j lc',.slice aa j ac,.slice ra' (i+1) rc']] V fun e w'=>BRes V w' n (Rch (spG G)) e):=fun V sV=>by
        have:=qhq V _ (spG G) n HN9.out.1 (qei HMP.out HLN.out HNP.out) sV.sp.isSp
        unfold sv at this
        rw [HSR.out] at this
        exact this
       have HBX:Hid (∀ V:World,SY w5 V gb rb sb ⟨ta,tc,ra,rc⟩ G ⟨na,nc,la,lc',aa,ac,ra',rc'⟩ (spG G) qs->V.heap[sb]?=some (.cells #[.int .i64 (j:Int),.int .i64 (m:Int),.int .i64 (st:Int),.int .i64 G.e,.slice na nn nc,.slice la j lc',.slice aa j ac,.slice ra' (i+1) rc'] 31 (0,0))):=fun V sV=>by
        have:=sV.sp.box
        rw [HSR.out] at this
        exact this
       have HS0:Hid (SY w5 w8.drew gb rb sb ⟨ta,tc,ra,rc⟩ G ⟨na,nc,la,lc',aa,ac,ra',rc'⟩ (spG G) qs):=s.step (qk _)
       obtain ⟨c0,c1',c2',c3,c4,c5,c6,c7⟩:=box8 (HBX.out w8 s)
       have HSV9:Hid (sC ⟨na,nc,la,lc',aa,ac,ra',rc'⟩ (spG G)=#[.int .i64 (j:Int),.int .i64 (m:Int),.int .i64 (st:Int),.int .i64 G.e,.slice na nn nc,.slice la j lc',.slice aa j ac,.slice ra' (i+1) rc']):=HSR.out
       clear s J HSR
       go_upto_region 25 with fail
       go_cut [9,10] (fun s9 s10 wd=>∃ f1 f2:Nat,s9=.slice (some ⟨f1,0,none⟩) n n/\s10=.slice (some ⟨f2,0,none⟩) n n/\Hid (∃ d1 d2:List Bool,d1.length=n/\d2.length=n/\ko (Der (spG G)) d1/\ko (Rch (spG G)) d2/\wd.ownsRow 0 4 1 (.slice (some ⟨f1,0,none⟩) n n) n (booC d1)/\wd.ownsRow 0 4 1 (.slice (some ⟨f2,0,none⟩) n n) n (booC d2)/\SY w5 wd gb rb sb ⟨ta,tc,ra,rc⟩ G ⟨na,nc,la,lc',aa,ac,ra',rc'⟩ (spG G) qs))
       case first =>
        go_region_with (first
         | (go_at_call 15;refine (HYC.out _ (by first | exact HS0.out | exact HSR2.out)).mono ?_;rintro e VY ⟨fy,dy,rfl,ly,oy,ty,hBY⟩;have HSY2:Hid (SY w5 VY gb rb sb ⟨ta,tc,ra,rc⟩ G ⟨na,nc,la,lc',aa,ac,ra',rc'⟩ (spG G) qs):=(by first | exact HS0.out.step hBY | exact HSR2.out.step hBY);obtain ⟨y0,y1,y2,y3,y4,y5,y6,y7⟩:=box8 (HBX.out VY HSY2.out))
         | (go_at_call 16;refine (HRC.out _ (by first | exact HS0.out | exact HSY2.out)).mono ?_;rintro e VR ⟨fr,dr,rfl,lr,or_,tr,hBR⟩;have HSR2:Hid (SY w5 VR gb rb sb ⟨ta,tc,ra,rc⟩ G ⟨na,nc,la,lc',aa,ac,ra',rc'⟩ (spG G) qs):=(by first | exact HS0.out.step hBR | exact HSY2.out.step hBR);obtain ⟨x0,x1,x2,x3,x4,x5,x6,x7⟩:=box8 (HBX.out VR HSR2.out)))
        all_goals first
         | (have HF:Hid (∃ d1 d2:List Bool,d1.length=n/\d2.length=n/\ko (Der (spG G)) d1/\ko (Rch (spG G)) d2/\VR.ownsRow 0 4 1 (.slice (some ⟨fy,0,none⟩) n n) n (booC d1)/\VR.ownsRow 0 4 1 (.slice (some ⟨fr,0,none⟩) n n) n (booC d2)/\SY w5 VR gb rb sb ⟨ta,tc,ra,rc⟩ G ⟨na,nc,la,lc',aa,ac,ra',rc'⟩ (spG G) qs):=⟨dy,dr,ly,lr,ty,tr,zw (zd oy (Nat.zero_le _)) hBR,zd or_ (Nat.zero_le _),HSR2.out⟩
            clear y0 y1 y2 y3 y4 y5 y6 y7 x0 x1 x2 x3 x4 x5 x6 x7 oy or_ ly lr ty tr hBY hBR
            go_wp2_with fail
            go_meet
            exact ⟨fy,fr,rfl,rfl,HF⟩)
         | (have HF:Hid (∃ d1 d2:List Bool,d1.length=n/\d2.length=n/\ko (Der (spG G)) d1/\ko (Rch (spG G)) d2/\VY.ownsRow 0 4 1 (.slice (some ⟨fy,0,none⟩) n n) n (booC d1)/\VY.ownsRow 0 4 1 (.slice (some ⟨fr,0,none⟩) n n) n (booC d2)/\SY w5 VY gb rb sb ⟨ta,tc,ra,rc⟩ G ⟨na,nc,la,lc',aa,ac,ra',rc'⟩ (spG G) qs):=⟨dy,dr,ly,lr,ty,tr,zd oy (Nat.zero_le _),zw (zd or_ (Nat.zero_le _)) hBY,HSY2.out⟩
            clear y0 y1 y2 y3 y4 y5 y6 y7 x0 x1 x2 x3 x4 x5 x6 x7 oy or_ ly lr ty tr hBY hBR
            go_wp2_with fail
            go_meet
            exact ⟨fy,fr,rfl,rfl,HF⟩)
       case rest =>
        obtain ⟨f1,f2,rfl,rfl,J0⟩:=hcut
        obtain ⟨w9,hw9⟩:∃ w9,w9=wc:=⟨_,rfl⟩
        subst wc
        clear c0 c1' c2' c3 c4 c5 c6 c7 HYC HRC HS0
        obtain ⟨d1,d2,l1,l2,t1,t2,o1,o2,s9⟩:=J0.out
        have HJ:Hid (d1.length=n/\d2.length=n/\ko (Der (spG G)) d1/\ko (Rch (spG G)) d2/\w9.ownsRow 0 4 1 (.slice (some ⟨f1,0,none⟩) n n) n (booC d1)/\w9.ownsRow 0 4 1 (.slice (some ⟨f2,0,none⟩) n n) n (booC d2)/\SY w5 w9 gb rb sb ⟨ta,tc,ra,rc⟩ G ⟨na,nc,la,lc',aa,ac,ra',rc'⟩ (spG G) qs):=⟨l1,l2,t1,t2,o1,o2,s9⟩
        obtain ⟨c0,c1',c2',c3,c4,c5,c6,c7⟩:=box8 (HBX.out w9 s9)
        obtain ⟨z0,z1,z2,z3,z4,z5,z6,z7⟩:=box8 s9.rx
        obtain ⟨g0,g1',g2,g3,g4,g5,g6,g7⟩:=qa4 s9.rx
        have HF:Hid (∀ v0 v1 v2 v3 v4 v5 v6 v7,IsSp (set8 w9 rb v0 v1 v2 v3 v4 v5 v6 v7) ⟨na,nc,la,lc',aa,ac,ra',rc'⟩ (spG G)/\Below w.heap.size w (set8 w9 rb v0 v1 v2 v3 v4 v5 v6 v7)):=fun v0 v1 v2 v3 v4 v5 v6 v7=>⟨(s9.sp.own.set8 ⟨_,s9.rx⟩).isSp,jd (qd H5.out.1.2.2 s9.sp.bel) HRB.out⟩
        clear l1 l2 t1 t2 o1 o2 s9 J0 HBX
        go_wp2_with fail
        go_loopg [11] n (fun kx s11 wr=>∃ x:Nat,s11=.int .i64 x/\j+1<=x/\x<=n/\n - x<=kx/\Hid (wr=w9/\∀ y,j<y->y<x->Der (spG G) y/\Rch (spG G) y))
        case atStart=>exact ⟨j+1,by simp,Nat.le_refl _,by have:=HNE.out;omega,by omega,(⟨rfl,fun x h1 h2=>by omega⟩:w9=w9/\∀ y,j<y->y<j+1->Der (spG G) y/\Rch (spG G) y)⟩
        case round =>
         obtain ⟨x,rfl,hx1,hx,hg2,J⟩:=hrel
         obtain ⟨hwr,hJ⟩:=J.out
         subst hwr
         have HX:Hid (∀ y,j<y->y<x->Der (spG G) y/\Rch (spG G) y):=hJ
         clear J hJ
         by_cases hlt:x<n
         ·have hlt':(x:Int)<=(j:Int)+(m:Int):=by have:=HNE.out;omega
          have hxn':(x:Int)<(n:Int):=by omega
          have q1:=qc3 HJ.out.2.2.2.2.1 HJ.out.1 hlt
          have q2:=qc3 HJ.out.2.2.2.2.2.1 HJ.out.2.1 hlt
          obtain ⟨x1,HX1⟩:∃ x1,Hid (isF d1 x=x1):=⟨_,rfl⟩
          obtain ⟨x2,HX2⟩:∃ x2,Hid (isF d2 x=x2):=⟨_,rfl⟩
          rw [HX1.out] at q1
          rw [HX2.out] at q2
          have T1:Hid (x1=true↔Der (spG G) x):=by rw [<-HX1.out];exact qav HJ.out.2.2.1 (by rw [HJ.out.1];exact hlt)
          have T2:Hid (x2=true↔Rch (spG G) x):=by rw [<-HX2.out];exact qav HJ.out.2.2.2.1 (by rw [HJ.out.2.1];exact hlt)
          have bad:(¬ Der (spG G) x\/¬ Rch (spG G) x)->Hid (k=8):=fun e=>by
           have hu:yd (spG G):=⟨x,by have:=HN9.out.2;omega,by have:=HN9.out.1;omega,e⟩
           rcases HK.out with e | e | e | e | e
           ·exact absurd HMP.out e.2
           ·exact absurd e.2.2 HLN.out
           ·exact absurd HNP.out e.2.2.2
           ·exact e.1
           ·exact absurd hu e.2.2.2.2
          cases x1
          ·have HKV:=bad (.inl (fun e=>by have:=T1.out.2 e;cases this))
           clear bad
           go_wp2_with fail
           refine bodyPost_ret (v:=.tuple #[.agg zC,.int .i64 8]) (by unfold zC sC;simp [results,Tryz.results10,go_sem, *]) rfl ?_
           exact ⟨.inl ⟨by rw [HKV.out];decide,by rw [HKV.out]⟩,(HF.out _ _ _ _ _ _ _ _).2⟩
          ·cases x2
           ·have HKV:=bad (.inr (fun e=>by have:=T2.out.2 e;cases this))
            clear bad
            go_wp2_with fail
            refine bodyPost_ret (v:=.tuple #[.agg zC,.int .i64 8]) (by unfold zC sC;simp [results,Tryz.results10,go_sem, *]) rfl ?_
            exact ⟨.inl ⟨by rw [HKV.out];decide,by rw [HKV.out]⟩,(HF.out _ _ _ _ _ _ _ _).2⟩
           ·have HFX:Hid (∀ y,j<y->y<x+1->Der (spG G) y/\Rch (spG G) y):=fun y h1 h2=>by
             rcases Nat.lt_or_ge y x with h3 | h3
             ·exact HX.out y h1 h3
             ·have:y=x:=by omega
              subst this
              exact ⟨T1.out.1 rfl,T2.out.1 rfl⟩
            clear bad
            go_wp2_with fail
            go_roundg (n - (x+1))
            case measure=>omega
            case rel=>exact ⟨x+1,by simp,by omega,by omega,Nat.le_refl _,(⟨rfl,HFX.out⟩:wr=wr/\∀ y,j<y->y<x+1->Der (spG G) y/\Rch (spG G) y)⟩
         ·have hlt':¬ (x:Int)<=(j:Int)+(m:Int):=by have:=HNE.out;omega
          have HKV:Hid (k=0):=by
           have hu:¬ yd (spG G):=fun ⟨y,h1,h2,h3⟩=>by
            have h4:=HX.out y (by have:=HN9.out.2;omega) (by have:=HN9.out.1;omega)
            rcases h3 with h3 | h3
            ·exact absurd h4.1 h3
            ·exact absurd h4.2 h3
           rcases HK.out with e | e | e | e | e
           ·exact absurd HMP.out e.2
           ·exact absurd e.2.2 HLN.out
           ·exact absurd HNP.out e.2.2.2
           ·exact absurd e.2.2.2.2 hu
           ·exact e.1
          go_wp2_with fail
          refine bodyPost_ret (v:=.tuple #[.agg #[.int .i64 (j:Int),.int .i64 (m:Int),.int .i64 (st:Int),.int .i64 G.e,.slice na nn nc,.slice la j lc',.slice aa j ac,.slice ra' (i+1) rc'],.int .i64 0]) (by simp [results,Tryz.results10,go_sem, *]) rfl ?_
          exact ⟨.inr ⟨HKV.out,⟨na,nc,la,lc',aa,ac,ra',rc'⟩,by unfold sv;rw [HSV9.out],(HF.out _ _ _ _ _ _ _ _).1⟩,(HF.out _ _ _ _ _ _ _ _).2⟩
def zS:Sp:=⟨0,0,0,0,[],[],[],[]⟩
def spK (G:Gm) (k:Int):Sp:=if k=0 then spG G else zS
theorem qsu (w:World):IsSp w ⟨none,0,none,0,none,0,none,0⟩ zS :=
 have z:∀ (k:Nat),Row w k none 0 0 []:=fun k=>⟨by simp,Nat.le_refl _,Nat.zero_le _,.inl ⟨rfl,rfl,rfl⟩⟩
 ⟨z 1,z 1,z 1,⟨[],rfl,z 4,fun q h=>(by cases h)⟩⟩
theorem qmg (G:Gm) (h:Hd) (w:World) (k:Int) (hG:IsG w h G) (hk:OfR G k):Calls Tryz.prog 10 #[gv h G] w fun e w'=>∃ h',e=.returned (.tuple #[.agg (sC h' (spK G k)),.int .i64 k])/\IsSp w' h' (spK G k)/\Below w.heap.size w w':=by
 refine (qo0 G h w k hG hk).mono ?_
 rintro e w' ⟨h1,hb⟩
 unfold spK
 rcases h1 with ⟨h1,rfl⟩ | ⟨rfl,h',rfl,hs⟩
 ·rw [if_neg h1]
  exact ⟨⟨none,0,none,0,none,0,none,0⟩,rfl,qsu _,hb⟩
 ·rw [if_pos rfl]
  exact ⟨h',rfl,hs,hb⟩
theorem qng (l:List Int) (a1 a2:Option Addr) (n k1 k2:Nat) (w:World) (h1:Row w 1 a1 n k1 (intC l)) (h2:Row w 1 a2 n k2 (intC l)) (e1:n=l.length) (hn:n<=1000) :
  Calls Tryz.prog 27 #[.slice a1 n k1,.slice a2 n k2] w fun e w'=>e=.returned (.bool true)/\Below w.heap.size w w':=by
 have HE:Hid (n=l.length):=e1
 have HR:Hid (Row w 1 a1 n k1 (intC l)/\Row w 1 a2 n k2 (intC l)):=⟨h1,h2⟩
 have q1:=ze h1
 have q2:=ze h2
 clear e1 h1 h2
 go_enter Tryz.func27,Tryz.ntmps27
 go_wp2_with fail
 go_loopg [5] n (fun kx s5 wr=>∃ k:Nat,s5=.int .i64 k/\k<=n/\n - k<=kx/\Hid (Below w.heap.size w wr))
 case atStart=>exact ⟨0,rfl,Nat.zero_le _,by omega,(Below.refl _ _:Below w.heap.size w w)⟩
 case round =>
  obtain ⟨k,rfl,hk,hg,J⟩:=hrel
  by_cases hlt:k<n
  ·have hlt':(k:Int)<(n:Int):=by omega
   obtain ⟨x,hx⟩:∃ x,l[k]?=some x:=⟨l[k]'(by rw [<-HE.out];exact hlt),List.getElem?_eq_getElem _⟩
   obtain ⟨b1,o1,rfl,c1⟩:=qcy (HR.out.1.below J.out) hx
   obtain ⟨b2,o2,rfl,c2⟩:=qcy (HR.out.2.below J.out) hx
   clear hx
   have HO:Hid (∀ q,Below w.heap.size w (wr.drewN q)):=fun q=>yh J.out q
   clear J
   have mx:=qay
   go_upto_region 6 with fail
   go_quiet (fail)
   go_wp2_with fail
   go_roundg (n - (k+1))
   case measure=>omega
   case rel=>exact ⟨k+1,by simp,by omega,Nat.le_refl _,HO.out _⟩
  ·have hlt':¬ (k:Int)<(n:Int):=by omega
   go_wp2_with fail
   go_ret
   exact ⟨rfl,J.out⟩
theorem qqr (l:List Nat):natC l=intC (l.map fun x:Nat=>(x:Int)):=by
 unfold natC intC
 rw [List.map_map]
 rfl
theorem qbr (l:List Nat) (a1 a2:Option Addr) (n k1 k2:Nat) (w:World) (h1:Row w 1 a1 n k1 (natC l)) (h2:Row w 1 a2 n k2 (natC l)) (e1:n=l.length) (hn:n<=1000) :
  Calls Tryz.prog 27 #[.slice a1 n k1,.slice a2 n k2] w fun e w'=>e=.returned (.bool true)/\Below w.heap.size w w':=by
 rw [qqr] at h1 h2
 exact qng _ a1 a2 n k1 k2 w h1 h2 (by rw [List.length_map];exact e1) hn
end Go.Proofs.YtngclmglmhiljaaGreatDoor
