/- Texts that the proofs of the First statements stand on, part Own04. -/
import Derived.Laws.StructEq
import Derived.Laws.Externs
import Derived.Laws.Shifts
import Derived.Laws.Bits
import Derived.Lib.ItoaWalk
import Derived.Lib.ItoaNum
import Derived.Lib.BitFns
import Derived.RegionTactic
import Derived.Laws.OwnMore
import Derived.Test.YtngclmglmhiljaaGreatDoorOwn03
set_option maxHeartbeats 16000000
set_option maxRecDepth 100000
namespace Go.Proofs.YtngclmglmhiljaaGreatDoor
open Go.RowKit
theorem qb3 (s:ByteArray) (w:World) (hs:s.size<=100) (r:Bool) (hp:r=true↔kn s):Calls Tryz.prog 90 #[.string s] w fun e w'=>e=.returned (.bool r)/\w'=w:=by
 have HN:Hid (∀ W:World,Calls Tryz.prog 102 #[.string s] W fun e w'=>e=.returned (.bool (nameOk (by8 s)))/\w'=W):=fun W=>vd s W (by omega)
 by_cases h0:s=⟨#[]⟩
 ·have h1:=(zo s).2 h0
  have HR:Hid (r=true):=hp.2 (.inl h0)
  clear hp h0
  go_enter Tryz.func90,Tryz.ntmps90
  go_wp2
  go_ret
  exact ⟨by rw [HR.out];rfl,rfl⟩
 ·have h1:(s.toList == [])=false:=by
   cases hb:(s.toList == [])
   ·rfl
   ·exact absurd ((zo s).1 hb) h0
  have HR:Hid (r=nameOk (by8 s)):=by
   show _=_
   rw [Bool.eq_iff_iff,hp]
   unfold kn zp
   simp [h0]
  generalize nameOk (by8 s)=m at HN HR
  clear hp h0
  go_enter Tryz.func90,Tryz.ntmps90
  go_wp2_with (go_at_call 102;refine (HN.out _).mono ?_;rintro e w1 ⟨rfl,rfl⟩)
  go_ret
  exact ⟨by rw [HR.out];rfl,rfl⟩
theorem qit (ru:Ru) (xa:Option Addr) (xc:Nat) (w:World) (hr:Row w 1 xa ru.r.length xc (strC ru.r)) (hs:ru.l.size<=100/\ru.p.size<=100/\ru.r.length<=100/\∀ x∈ru.r,x.size<=100) (r:Bool) (hp:r=true↔xq ru) :
  Calls Tryz.prog 105 #[.agg #[.string ru.l,.slice xa ru.r.length xc,.string ru.p]] w fun e w'=>e=.returned (.bool r)/\Below w.heap.size w w':=by
 obtain ⟨nl,nr,np⟩:=ru
 simp only at hr hs ⊢
 have HP:Hid (r=true↔xq ⟨nl,nr,np⟩):=hp
 have HR:Hid (Row w 1 xa nr.length xc (strC nr)):=hr
 have hle:=hr.le
 have hmx:xc<=9223372036854775807:=by have:=hr.max;unfold maxLen at this;omega
 have hlen:=hs.2.2.1
 have HX:Hid (∀ x∈nr,x.size<=100):=hs.2.2.2
 have H1:Hid (∀ W:World,Calls Tryz.prog 102 #[.string nl] W fun e w'=>e=.returned (.bool (nameOk (by8 nl)))/\w'=W):=fun W=>vd nl W (by omega)
 obtain ⟨pb,hpb⟩:=zr (kn np)
 have H2:Hid (∀ W:World,Calls Tryz.prog 90 #[.string np] W fun e w'=>e=.returned (.bool pb)/\w'=W):=fun W=>qb3 np W hs.2.1 pb hpb
 have HPB:Hid (pb=true↔kn np):=hpb
 have HA:Hid (∀ o:Obj,Below w.heap.size w (w.alloc o)):=qb w
 clear hr hs hp hpb
 by_cases h20:nr.length<=20
 ·obtain ⟨n,HN⟩:∃ n,Hid (nr.length=n):=⟨_,rfl⟩
  rw [HN.out] at HR hle hlen h20 ⊢
  cases hnl:nameOk (by8 nl)
  ·rw [hnl] at H1
   have HF:Hid (r=false):=zb HP.out (fun h=>by have:=h.1;unfold zp at this;simp only at this;rw [hnl] at this;cases this)
   clear hnl
   go_enter Tryz.func105,Tryz.ntmps105
   go_wp2_with (first | (go_at_call 102;refine (H1.out _).mono ?_;rintro e w1 ⟨rfl,rfl⟩))
   go_ret
   exact ⟨by rw [HF.out];rfl,HA.out _⟩
  ·rw [hnl] at H1
   cases hpp:pb
   ·rw [hpp] at H2
    have HF:Hid (r=false):=zb HP.out (fun h=>by have:=HPB.out.2 h.2.2.1;rw [hpp] at this;cases this)
    clear hnl hpp
    go_enter Tryz.func105,Tryz.ntmps105
    go_wp2_with (first | (go_at_call 102;refine (H1.out _).mono ?_;rintro e w1 ⟨rfl,rfl⟩) | (go_at_call 90;refine (H2.out _).mono ?_;rintro e w1 ⟨rfl,rfl⟩))
    go_ret
    exact ⟨by rw [HF.out];rfl,HA.out _⟩
   ·rw [hpp] at H2
    have HG:Hid (zp nl/\kn np/\nr.length<=20):=⟨hnl,HPB.out.1 hpp,by rw [HN.out];exact h20⟩
    clear hnl hpp
    go_enter Tryz.func105,Tryz.ntmps105
    go_wp2_with (first | (go_at_call 102;refine (H1.out _).mono ?_;rintro e w1 ⟨rfl,rfl⟩) | (go_at_call 90;refine (H2.out _).mono ?_;rintro e w1 ⟨rfl,rfl⟩))
    have HRB:Hid (Row (w.alloc (.cells #[.string nl,.slice xa n xc,.string np] 55)) 1 xa n xc (strC nr)/\Below w.heap.size w (w.alloc (.cells #[.string nl,.slice xa n xc,.string np] 55))):=⟨HR.out.below (qb _ _),HA.out _⟩
    go_loopg [24] n (fun kx s24 wr=>∃ k:Nat,s24=.int .i64 k/\k<=n/\n - k<=kx/\Hid ((Row wr 1 xa n xc (strC nr)/\Below w.heap.size w wr)/\∀ i x,i<k->nr[i]?=some x->zp x))
    case atStart=>exact ⟨0,rfl,Nat.zero_le _,by omega,(⟨HRB.out,fun i x h=>absurd h (Nat.not_lt_zero _)⟩:(Row _ 1 xa n xc (strC nr)/\Below w.heap.size w _)/\∀ i x,i<0->nr[i]?=some x->zp x)⟩
    case round =>
     obtain ⟨k,rfl,hk,hg,J⟩:=hrel
     clear HRB
     by_cases hlt:k<n
     ·obtain ⟨x,hx⟩:∃ x,nr[k]?=some x:=⟨nr[k]'(by rw [HN.out];exact hlt),List.getElem?_eq_getElem _⟩
      obtain ⟨b,o,rfl,c0⟩:=jm J.out.1.1 hx
      have HT:Hid (nr[k]?=some x):=hx
      have H3:Hid (∀ W:World,Calls Tryz.prog 102 #[.string x] W fun e w'=>e=.returned (.bool (nameOk (by8 x)))/\w'=W):=fun W=>vd x W (by have:=HX.out x (List.mem_of_getElem? hx);omega)
      clear hx
      cases hnx:nameOk (by8 x)
      ·rw [hnx] at H3
       have HF:Hid (r=false):=zb HP.out (fun h=>by have:=h.2.2.2 x (List.mem_of_getElem? HT.out);unfold zp at this;rw [hnx] at this;cases this)
       clear hnx
       go_wp2_with (go_at_call 102;refine (H3.out _).mono ?_;rintro e w2 ⟨rfl,rfl⟩)
       go_ret
       exact ⟨by rw [HF.out];rfl,J.out.1.2⟩
      ·rw [hnx] at H3
       have HF:Hid (∀ i x,i<k+1->nr[i]?=some x->zp x):=fun i y hi hy=>by
        rcases Nat.lt_or_ge i k with h | h
        ·exact J.out.2 i y h hy
        ·have:i=k:=by omega
         subst this
         rw [HT.out] at hy
         cases hy
         exact hnx
       clear hnx
       go_wp2_with (go_at_call 102;refine (H3.out _).mono ?_;rintro e w2 ⟨rfl,rfl⟩)
       go_roundg (n - (k+1))
       case measure=>omega
       case rel=>exact ⟨k+1,by simp,by omega,Nat.le_refl _,(⟨J.out.1,HF.out⟩:(Row _ 1 (some ⟨b,o,none⟩) n xc (strC nr)/\Below w.heap.size w _)/\∀ i x,i<k+1->nr[i]?=some x->zp x)⟩
     ·have HF:Hid (r=true):=ky HP.out ⟨HG.out.1,HG.out.2.2,HG.out.2.1,fun x hx=>by
       obtain ⟨i,hi⟩:=List.getElem?_of_mem hx
       have hl:i<nr.length:=(List.getElem?_eq_some_iff.1 hi).1
       exact J.out.2 i x (by rw [HN.out] at hl;omega) hi⟩
      go_wp2
      go_ret
      exact ⟨by rw [HF.out];rfl,J.out.1.2⟩
 ·have HF:Hid (r=false):=zb HP.out (fun h=>h20 h.2.1)
  generalize nr.length=n at hle hlen h20 ⊢
  have h20':(20:Int)<(n:Int):=by omega
  clear HR
  go_enter Tryz.func105,Tryz.ntmps105
  go_wp2
  go_ret
  exact ⟨by rw [HF.out];rfl,HA.out _⟩
theorem qhd (rs:List Ru) (ao:Option Addr) (n cap:Nat) (w:World) (hr:ks w ao n cap rs) (hn:n=rs.length) (hnn:n<=1000) (hle:n<=cap) (hmx:cap<=9223372036854775807)
  (hs:∀ r∈rs,r.l.size<=100/\r.p.size<=100/\r.r.length<=100/\∀ x∈r.r,x.size<=100) (r:Bool) (hp:r=true↔∀ r∈rs,xq r) :
  Calls Tryz.prog 91 #[.slice ao n cap] w fun e w'=>e=.returned (.bool r)/\Below w.heap.size w w':=by
 have HN:Hid (n=rs.length):=hn
 have HR:Hid (ks w ao n cap rs):=hr
 have HS:Hid (∀ r∈rs,r.l.size<=100/\r.p.size<=100/\r.r.length<=100/\∀ x∈r.r,x.size<=100):=hs
 have HP:Hid (r=true↔∀ r∈rs,xq r):=hp
 clear hr hn hs hp
 go_enter Tryz.func91,Tryz.ntmps91
 go_wp2
 go_loopg [7] n (fun kx s7 wr=>∃ k:Nat,s7=.int .i64 k/\k<=n/\n - k<=kx/\Hid (Below w.heap.size w wr/\∀ i x,i<k->rs[i]?=some x->xq x))
 case atStart=>exact ⟨0,rfl,Nat.zero_le _,by omega,(⟨Below.refl _ _,fun i x h=>absurd h (Nat.not_lt_zero _)⟩:Below w.heap.size w _/\∀ i x,i<0->rs[i]?=some x->xq x)⟩
 case round =>
  obtain ⟨k,rfl,hk,hg,J⟩:=hrel
  by_cases hlt:k<n
  ·obtain ⟨x,hx⟩:∃ x,rs[k]?=some x:=⟨rs[k]'(by rw [<-HN.out];exact hlt),List.getElem?_eq_getElem _⟩
   obtain ⟨b,o,xa,xc,rfl,c0,c1,c2,hrow⟩:=(HR.out.below J.out.1).at hx
   have HT:Hid (rs[k]?=some x):=hx
   obtain ⟨q,hq⟩:=zr (xq x)
   have HQ:Hid (q=true↔xq x):=hq
   have HC:Hid (∀ W:World,Below wr.heap.size wr W->Calls Tryz.prog 105 #[.agg #[.string x.l,.slice xa x.r.length xc,.string x.p]] W fun e w'=>e=.returned (.bool q)/\Below W.heap.size W w'):=fun W hW=>qit x xa xc W (hrow.below hW) (HS.out x (List.mem_of_getElem? HT.out)) q hq
   clear hx hrow hq
   cases hqq:q
   ·rw [hqq] at HC
    have HF:Hid (r=false):=zb HP.out (fun h=>by have:=HQ.out.2 (h x (List.mem_of_getElem? HT.out));rw [hqq] at this;cases this)
    clear hqq
    go_wp2_with (go_at_call 105;refine (HC.out _ (qb _ _)).mono ?_;rintro e w2 ⟨rfl,hB⟩)
    go_ret
    exact ⟨by rw [HF.out];rfl,qd (qd J.out.1 (qb _ _)) hB⟩
   ·rw [hqq] at HC
    have HF:Hid (∀ i x,i<k+1->rs[i]?=some x->xq x):=fun i y hi hy=>by
     rcases Nat.lt_or_ge i k with h | h
     ·exact J.out.2 i y h hy
     ·have:i=k:=by omega
      subst this
      rw [HT.out] at hy
      cases hy
      exact HQ.out.1 hqq
    clear hqq
    go_wp2_with (go_at_call 105;refine (HC.out _ (qb _ _)).mono ?_;rintro e w2 ⟨rfl,hB⟩)
    go_roundg (n - (k+1))
    case measure=>omega
    case rel=>exact ⟨k+1,by simp,by omega,Nat.le_refl _,(⟨qd (qd J.out.1 (qb _ _)) hB,HF.out⟩:Below w.heap.size w _/\∀ i x,i<k+1->rs[i]?=some x->xq x)⟩
  ·have HF:Hid (r=true):=ky HP.out (fun x hx=>by
    obtain ⟨i,hi⟩:=List.getElem?_of_mem hx
    have hl:i<rs.length:=(List.getElem?_eq_some_iff.1 hi).1
    exact J.out.2 i x (by rw [<-HN.out] at hl;omega) hi)
   go_wp2
   go_ret
   exact ⟨by rw [HF.out];rfl,J.out.1⟩
def kl (ts:List Tk) (k:Nat):Prop:=∀ (i:Nat) (t:Tk),i<k->ts[i]?=some t->zp t.n/\∀ (j:Nat) (u:Tk),j<i->ts[j]?=some u->u.n≠t.n
theorem kl.zero (ts:List Tk):kl ts 0:=fun _ _ h=>absurd h (Nat.not_lt_zero _)
theorem kl.succ {ts:List Tk} {k:Nat} {t:Tk} (h:kl ts k) (ht:ts[k]?=some t) (hn:zp t.n) (hd:¬ hasN (ts.take k) t.n):kl ts (k+1):=fun i u hi hu=>by
 rcases Nat.lt_or_ge i k with h1 | h1
 ·exact h i u h1 hu
 ·have:i=k:=by omega
  subst this
  rw [ht] at hu
  cases hu
  refine ⟨hn,fun j v hj hv he=>hd ⟨v,?_,he⟩⟩
  exact List.mem_of_getElem? (i:=j) (by rw [List.getElem?_take,if_pos hj];exact hv)
theorem kl.all {ts:List Tk} (h:kl ts ts.length):∀ (i:Nat) (t:Tk),ts[i]?=some t->zp t.n/\∀ (j:Nat) (u:Tk),j<i->ts[j]?=some u->u.n≠t.n :=
 fun i t ht=>h i t (List.getElem?_eq_some_iff.1 ht).1 ht
theorem qnv {ts:List Tk} {k:Nat} {t:Tk} (ht:ts[k]?=some t) (hd:hasN (ts.take k) t.n):¬ TokP ts:=fun h=>by
 obtain ⟨u,hu,he⟩:=hd
 obtain ⟨j,hj⟩:=List.getElem?_of_mem hu
 rw [List.getElem?_take] at hj
 split at hj
 ·exact (h.1 k t ht).2 j u (by assumption) hj he
 ·cases hj
theorem qgb (ts:List Tk) (ao:Option Addr) (n cap:Nat) (w:World) (hr:Row w 3 ao n cap (tokC ts)) (hn:n=ts.length) (hnn:n<=1000) (hs:∀ t∈ts,t.n.size<=100) (r:Bool) (hp:r=true↔TokP ts) :
  Calls Tryz.prog 89 #[.slice ao n cap] w fun e w'=>e=.returned (.bool r)/\Below w.heap.size w w':=by
 have HN:Hid (n=ts.length):=hn
 have HR:Hid (Row w 3 ao n cap (tokC ts)):=hr
 have HS:Hid (∀ t∈ts,t.n.size<=100):=hs
 have HP:Hid (r=true↔TokP ts):=hp
 have hle:=hr.le
 have hmx:cap<=9223372036854775807:=by have:=hr.max;unfold maxLen at this;omega
 clear hr hn hs hp
 go_enter Tryz.func89,Tryz.ntmps89
 go_wp2
 go_loopg [9] n (fun kx s9 wr=>∃ k:Nat,s9=.int .i64 k/\k<=n/\n - k<=kx/\Hid (Below w.heap.size w wr/\kl ts k))
 case atStart=>exact ⟨0,rfl,Nat.zero_le _,by omega,(⟨Below.refl _ _,kl.zero ts⟩:Below w.heap.size w _/\kl ts 0)⟩
 case round =>
  obtain ⟨k,rfl,hk,hg,J⟩:=hrel
  by_cases hlt:k<n
  ·obtain ⟨t,ht⟩:∃ t,ts[k]?=some t:=⟨ts[k]'(by rw [<-HN.out];exact hlt),List.getElem?_eq_getElem _⟩
   obtain ⟨b,o,rfl,c0,c1,c2⟩:=ja (HR.out.below J.out.1) ht
   have HT:Hid (ts[k]?=some t):=ht
   have hsz:=HS.out t (List.mem_of_getElem? ht)
   obtain ⟨tn,tl,ta⟩:=t
   simp only at c0 c1 c2 hsz
   clear ht
   go_upto_region 4 with fail
   have HB:Hid (Below w.heap.size w (wr.alloc (.cells #[.string tn,.int .i64 tl,.int .i64 ta] 58))):=qd J.out.1 (qb _ _)
   have HK:Hid (kl ts k):=J.out.2
   have d0:(wr.alloc (.cells #[.string tn,.int .i64 tl,.int .i64 ta] 58)).cell? ⟨wr.heap.size,0,none⟩=some (.string tn):=by rw [World.cell?_alloc_mark];rfl
   generalize wr.alloc (.cells #[.string tn,.int .i64 tl,.int .i64 ta] 58)=wq at HB d0 ⊢
   generalize wr.heap.size=tb at d0 ⊢
   clear c0 c1 c2 J
   have g0:=kh d0
   have H1:Hid (∀ W:World,Calls Tryz.prog 102 #[.string tn] W fun e w'=>e=.returned (.bool (nameOk (by8 tn)))/\w'=W):=fun W=>vd tn W (by omega)
   obtain ⟨d,hd⟩:=zr (hasN (ts.take k) tn)
   have HD:Hid (d=true↔hasN (ts.take k) tn):=hd
   have H2:Hid (∀ W:World,Below wq.heap.size wq W->Calls Tryz.prog 103 #[.slice (some ⟨b,o,none⟩) k cap,.string tn] W fun e w'=>e=.returned (.bool d)/\Below W.heap.size W w'):=fun W hW=>qis (ts.take k) (some ⟨b,o,none⟩) k cap tn W d hd (qpg (HR.out.below (qd HB.out hW)) k hk) (by rw [List.length_take,<-HN.out];omega) (by omega)
   clear hd
   cases hnx:nameOk (by8 tn)
   ·rw [hnx] at H1
    have HF:Hid (r=false):=zb HP.out (fun h=>by have:=(h.1 k _ HT.out).1;unfold zp at this;simp only at this;rw [hnx] at this;cases this)
    clear hnx
    refine zv (by kernel_rfl) ?_
    repeat (go_big_quiet_step (first | (go_at_call 102;exact qag (H1.out _)) | (go_at_call 103;exact j5 (H2.out _ (ke _ _ _)))))
    refine wpQuiet_nil ?_
    intro _ hwq
    obtain ⟨⟨nq,osq⟩,hwe⟩:=hwq
    subst hwe
    have HB2:Hid (Below w.heap.size w (onto wq nq osq)):=qd HB.out (ke _ _ _)
    simp only
    generalize onto wq nq osq=wz at HB2 ⊢
    clear g0 d0 H1 H2
    go_wp2
    go_ret
    exact ⟨by rw [HF.out];rfl,HB2.out⟩
   ·rw [hnx] at H1
    cases hdd:d
    ·rw [hdd] at H2
     have HF:Hid (kl ts (k+1)):=HK.out.succ HT.out hnx (fun h=>by have:=HD.out.2 h;rw [hdd] at this;cases this)
     clear hnx hdd
     refine zv (by kernel_rfl) ?_
     repeat (go_big_quiet_step (first | (go_at_call 102;exact qag (H1.out _)) | (go_at_call 103;exact j5 (H2.out _ (ke _ _ _)))))
     refine wpQuiet_nil ?_
     intro _ hwq
     obtain ⟨⟨nq,osq⟩,hwe⟩:=hwq
     subst hwe
     have HB2:Hid (Below w.heap.size w (onto wq nq osq)):=qd HB.out (ke _ _ _)
     simp only
     generalize onto wq nq osq=wz at HB2 ⊢
     clear g0 d0 H1 H2
     go_wp2
     go_roundg (n - (k+1))
     case measure=>omega
     case rel=>exact ⟨k+1,by simp,by omega,Nat.le_refl _,(⟨HB2.out,HF.out⟩:Below w.heap.size w _/\kl ts (k+1))⟩
    ·rw [hdd] at H2
     have HF:Hid (r=false):=zb HP.out (qnv HT.out (HD.out.1 hdd))
     clear hnx hdd
     refine zv (by kernel_rfl) ?_
     repeat (go_big_quiet_step (first | (go_at_call 102;exact qag (H1.out _)) | (go_at_call 103;exact j5 (H2.out _ (ke _ _ _)))))
     refine wpQuiet_nil ?_
     intro _ hwq
     obtain ⟨⟨nq,osq⟩,hwe⟩:=hwq
     subst hwe
     have HB2:Hid (Below w.heap.size w (onto wq nq osq)):=qd HB.out (ke _ _ _)
     simp only
     generalize onto wq nq osq=wz at HB2 ⊢
     clear g0 d0 H1 H2
     go_wp2
     go_ret
     exact ⟨by rw [HF.out];rfl,HB2.out⟩
  ·obtain rfl:k=n:=by omega
   have HK:Hid (∀ (i:Nat) (t:Tk),ts[i]?=some t->zp t.n/\∀ (j:Nat) (u:Tk),j<i->ts[j]?=some u->u.n≠t.n):=kl.all (by rw [<-HN.out];exact J.out.2)
   have HC:=qar ts ao k cap wr (HR.out.below J.out.1) HN.out hnn
   have HC2:Hid (Calls Tryz.prog 104 #[.slice ao k cap] wr fun e w'=>∃ (l:List Int) (r:Int),e=.returned (.tuple #[.agg (ar9 l),.bool (decide (r=1))])/\qf8 ts l (decide (r=1))/\Below wr.heap.size wr w'):=HC
   clear HC
   go_wp2_with fail
   refine HC2.out.mono ?_
   rintro e w2 ⟨l,ri,rfl,hl,hB⟩
   have HF:Hid (r=decide (ri=1)):=by
    show _=_
    rw [Bool.eq_iff_iff,HP.out]
    unfold TokP
    rw [hl.2.1]
    exact ⟨fun h=>h.2,fun h=>⟨HK.out,h⟩⟩
   have HB:Hid (Below w.heap.size w w2):=qd J.out.1 hB
   obtain ⟨xa,xb,xc,xd,xe,xf,xg,xi,xj,rfl⟩:=nine hl.1
   rw [show ar9 [xa,xb,xc,xd,xe,xf,xg,xi,xj]=#[.int .i64 xa,.int .i64 xb,.int .i64 xc,.int .i64 xd,.int .i64 xe,.int .i64 xf,.int .i64 xg,.int .i64 xi,.int .i64 xj] from rfl]
   generalize decide (ri=1)=rb at HF
   clear hl hB J HC2
   go_wp2_with fail
   go_ret
   exact ⟨by rw [HF.out];rfl,qd HB.out (qb _ _)⟩
def qju (F:Nat):Prop:=∀ (G:Gm) (h:Hd) (w:World) (r:Bool),IsG w h G->(r=true↔MayP G)->Calls Tryz.prog F #[gv h G] w fun e w'=>e=.returned (.bool r)/\Below w.heap.size w w'
theorem kj {w:World} {ao:Option Addr} {n cap:Nat} {rs:List Ru} (h:ks w ao n cap rs):n<=cap/\cap<=9223372036854775807:=by
 obtain ⟨qs,-,h2,-⟩:=h
 have:=h2.le
 have h3:=h2.max
 unfold maxLen at h3
 omega
theorem qce:qju 80:=by
 intro G h w r hG hp
 obtain ⟨ts,st,ex,rs⟩:=G
 obtain ⟨ta,tc,ra,rc⟩:=h
 have HP:Hid (r=true↔MayP ⟨ts,st,ex,rs⟩):=hp
 have hm1:ts.length<=tc/\tc<=9223372036854775807:=by have h1:=hG.tok.le;have h2:=hG.tok.max;simp only at h1 h2;unfold maxLen at h2;omega
 have hm2:=kj hG.rul
 simp only at hm2
 have hs1:ts.length<=100:=hG.small.nt
 have hs2:rs.length<=200:=hG.small.nr
 have HG:Hid (IsG w ⟨ta,tc,ra,rc⟩ ⟨ts,st,ex,rs⟩):=hG
 unfold gv
 simp only
 obtain ⟨b1,hb1⟩:=zr (TokP ts)
 have HB1:Hid (b1=true↔TokP ts):=hb1
 obtain ⟨b2,hb2⟩:=zr (kn st)
 have HB2:Hid (b2=true↔kn st):=hb2
 obtain ⟨b3,hb3⟩:=zr (∀ r∈rs,xq r)
 have HB3:Hid (b3=true↔∀ r∈rs,xq r):=hb3
 have H1:Hid (∀ W:World,Below w.heap.size w W->Calls Tryz.prog 89 #[.slice ta ts.length tc] W fun e w'=>e=.returned (.bool b1)/\Below W.heap.size W w'):=fun W hW=>qgb ts ta ts.length tc W (HG.out.tok.below hW) rfl (by omega) HG.out.small.tk b1 hb1
 have H2:Hid (∀ W:World,Calls Tryz.prog 90 #[.string st] W fun e w'=>e=.returned (.bool b2)/\w'=W):=fun W=>qb3 st W HG.out.small.st b2 hb2
 have H3:Hid (∀ W:World,Below w.heap.size w W->Calls Tryz.prog 91 #[.slice ra rs.length rc] W fun e w'=>e=.returned (.bool b3)/\Below W.heap.size W w'):=fun W hW=>qhd rs ra rs.length rc W (HG.out.rul.below hW) rfl (by omega) hm2.1 hm2.2 HG.out.small.rl b3 hb3
 have HE:Hid (MayP ⟨ts,st,ex,rs⟩↔ts.length<=40/\rs.length<=100/\TokP ts/\kn st/\0<=ex/\ex<=9999/\∀ r∈rs,xq r):=⟨fun h=>⟨h.nt,h.nr,h.tk,h.st,h.e0,h.e1,h.rl⟩,fun ⟨h1,h2,h3,h4,h5,h6,h7⟩=>⟨h1,h2,h5,h6,h4,h3,h7⟩⟩
 clear hG hp hb1 hb2 hb3
 by_cases h40:ts.length<=40
 ·by_cases h100:rs.length<=100
  ·have HF:Hid (r=(b1 && b2 && decide (0<=ex) && decide (ex<=9999) && b3)):=by
    show _=_
    rw [Bool.eq_iff_iff,HP.out,HE.out]
    simp only [Bool.and_eq_true,decide_eq_true_eq,HB1.out,HB2.out,HB3.out]
    constructor
    ·rintro ⟨-,-,h3,h4,h5,h6,h7⟩;exact ⟨⟨⟨⟨h3,h4⟩,h5⟩,h6⟩,h7⟩
    ·rintro ⟨⟨⟨⟨h3,h4⟩,h5⟩,h6⟩,h7⟩;exact ⟨h40,h100,h3,h4,h5,h6,h7⟩
   generalize ts.length=tn at *
   generalize rs.length=rn at *
   clear HE HP HB1 HB2 HB3 HG
   go_enter Tryz.func80,Tryz.ntmps80
   go_upto_region 3 with fail
   have c0:(w.alloc (.cells #[.slice ta tn tc,.string st,.int .i64 ex,.slice ra rn rc] 25)).cell? ⟨w.heap.size,0,none⟩=some (.slice ta tn tc):=by rw [World.cell?_alloc_mark];rfl
   have c1:(w.alloc (.cells #[.slice ta tn tc,.string st,.int .i64 ex,.slice ra rn rc] 25)).cell? ⟨w.heap.size,1,none⟩=some (.string st):=by rw [World.cell?_alloc_mark];rfl
   have c2:(w.alloc (.cells #[.slice ta tn tc,.string st,.int .i64 ex,.slice ra rn rc] 25)).cell? ⟨w.heap.size,2,none⟩=some (.int .i64 ex):=by rw [World.cell?_alloc_mark];rfl
   have c3:(w.alloc (.cells #[.slice ta tn tc,.string st,.int .i64 ex,.slice ra rn rc] 25)).cell? ⟨w.heap.size,3,none⟩=some (.slice ra rn rc):=by rw [World.cell?_alloc_mark];rfl
   have HB:Hid (Below w.heap.size w (w.alloc (.cells #[.slice ta tn tc,.string st,.int .i64 ex,.slice ra rn rc] 25))):=qb _ _
   generalize w.alloc (.cells #[.slice ta tn tc,.string st,.int .i64 ex,.slice ra rn rc] 25)=wq at c0 c1 c2 c3 HB ⊢
   generalize w.heap.size=gb at c0 c1 c2 c3 ⊢
   go_wp2_with fail
   refine (H1.out _ HB.out).mono ?_
   rintro e w1 ⟨rfl,hB1⟩
   have c1:=qj hB1 c1
   have c2:=qj hB1 c2
   have c3:=qj hB1 c3
   have HB':Hid (Below w.heap.size w w1):=qd HB.out hB1
   clear hB1 c0
   cases b1
   ·have HF2:Hid (r=false):=HF.out
    clear HF
    go_wp2_with fail
    go_ret
    exact ⟨by rw [HF2.out];rfl,HB'.out⟩
   ·cases b2
    ·have HF2:Hid (r=false):=HF.out
     clear HF
     go_wp2_with (go_at_call 90;refine (H2.out _).mono ?_;rintro e w2 ⟨rfl,rfl⟩)
     go_ret
     exact ⟨by rw [HF2.out];rfl,HB'.out⟩
    ·by_cases he0:0<=ex
     ·by_cases he1:ex<=9999
      ·have HF2:Hid (r=b3):=by have:=HF.out;rwa [decide_eq_true he0,decide_eq_true he1] at this
       clear HF
       go_wp2_with (first | (go_at_call 90;refine (H2.out _).mono ?_;rintro e w2 ⟨rfl,rfl⟩) | (go_at_call 91;refine (H3.out _ HB'.out).mono ?_;rintro e w3 ⟨rfl,hB3⟩))
       go_ret
       exact ⟨by rw [HF2.out];rfl,qd HB'.out hB3⟩
      ·have HF2:Hid (r=false):=by have:=HF.out;rwa [decide_eq_true he0,decide_eq_false he1] at this
       clear HF
       go_wp2_with (first | (go_at_call 90;refine (H2.out _).mono ?_;rintro e w2 ⟨rfl,rfl⟩))
       go_ret
       exact ⟨by rw [HF2.out];rfl,HB'.out⟩
     ·have HF2:Hid (r=false):=by have:=HF.out;rwa [decide_eq_false he0] at this
      clear HF
      go_wp2_with (first | (go_at_call 90;refine (H2.out _).mono ?_;rintro e w2 ⟨rfl,rfl⟩))
      go_ret
      exact ⟨by rw [HF2.out];rfl,HB'.out⟩
  ·have HF:Hid (r=false):=zb HP.out (fun h=>h100 h.nr)
   have h1:(100:Int)<(rs.length:Int):=by omega
   have h40':¬ (40:Int)<(ts.length:Int):=by omega
   generalize ts.length=tn at *
   generalize rs.length=rn at *
   clear HE HP HB1 HB2 HB3 HG H1 H2 H3
   go_enter Tryz.func80,Tryz.ntmps80
   go_wp2_with fail
   go_ret
   exact ⟨by rw [HF.out];rfl,qb _ _⟩
 ·have HF:Hid (r=false):=zb HP.out (fun h=>h40 h.nt)
  have h40':(40:Int)<(ts.length:Int):=by omega
  generalize ts.length=tn at *
  generalize rs.length=rn at *
  clear HE HP HB1 HB2 HB3 HG H1 H2 H3
  go_enter Tryz.func80,Tryz.ntmps80
  go_wp2_with fail
  go_ret
  exact ⟨by rw [HF.out];rfl,qb _ _⟩
theorem qda {α:Type} {a b:List α} (hl:a.length=b.length) (h:∀ (i:Nat) (x y:α),a[i]?=some x->b[i]?=some y->x=y):a=b:=by
 apply List.ext_getElem hl
 intro i h1 h2
 exact h i _ _ (List.getElem?_eq_getElem h1) (List.getElem?_eq_getElem h2)
theorem qk1 (l m:List ByteArray) (a1:Option Addr) (n1 k1:Nat) (a2:Option Addr) (n2 k2:Nat) (w:World) (h1:Row w 1 a1 n1 k1 (strC l)) (h2:Row w 1 a2 n2 k2 (strC m)) (e1:n1=l.length) (e2:n2=m.length) (hn:n1<=1000) (r:Bool) (hp:r=true↔l=m) :
  Calls Tryz.prog 166 #[.slice a1 n1 k1,.slice a2 n2 k2] w fun e w'=>e=.returned (.bool r)/\Below w.heap.size w w':=by
 have HE:Hid (n1=l.length/\n2=m.length):=⟨e1,e2⟩
 have HP:Hid (r=true↔l=m):=hp
 have HR:Hid (Row w 1 a1 n1 k1 (strC l)/\Row w 1 a2 n2 k2 (strC m)):=⟨h1,h2⟩
 have q1:n1<=k1/\k1<=9223372036854775807:=by have:=h1.le;have h:=h1.max;unfold maxLen at h;omega
 have q2:n2<=k2/\k2<=9223372036854775807:=by have:=h2.le;have h:=h2.max;unfold maxLen at h;omega
 clear e1 e2 hp h1 h2
 by_cases hne:n1=n2
 ·have hb:((n1:Int) != (n2:Int))=false:=by simp [hne]
  go_enter Tryz.func166,Tryz.ntmps166
  go_wp2
  go_loopg [13] n1 (fun kx s13 wr=>∃ k:Nat,s13=.int .i64 k/\k<=n1/\n1 - k<=kx/\Hid (Below w.heap.size w wr/\∀ (i:Nat) (x y:ByteArray),i<k->l[i]?=some x->m[i]?=some y->x=y))
  case atStart=>exact ⟨0,rfl,Nat.zero_le _,by omega,(⟨Below.refl _ _,fun i x y h=>absurd h (Nat.not_lt_zero _)⟩:Below w.heap.size w _/\∀ (i:Nat) (x y:ByteArray),i<0->l[i]?=some x->m[i]?=some y->x=y)⟩
  case round =>
   obtain ⟨k,rfl,hk,hg,J⟩:=hrel
   by_cases hlt:k<n1
   ·obtain ⟨x,hx⟩:∃ x,l[k]?=some x:=⟨l[k]'(by rw [<-HE.out.1];exact hlt),List.getElem?_eq_getElem _⟩
    obtain ⟨y,hy⟩:∃ y,m[k]?=some y:=⟨m[k]'(by rw [<-HE.out.2];omega),List.getElem?_eq_getElem _⟩
    obtain ⟨b1,o1,rfl,c1⟩:=jm (HR.out.1.below J.out.1) hx
    obtain ⟨b2,o2,rfl,c2⟩:=jm (HR.out.2.below J.out.1) hy
    have HX:Hid (l[k]?=some x/\m[k]?=some y):=⟨hx,hy⟩
    clear hx hy
    have hlt2:k<n2:=by omega
    go_upto_region 6 with fail
    have g1:=kh c1
    have g2:=kh c2
    have HO:Hid (∀ n os,Below w.heap.size w (onto wr n os)):=fun n os=>qd J.out.1 (ke wr n os)
    by_cases hxy:x=y
    ·have e3:(x.toList == y.toList)=true:=xh hxy
     have HF:Hid (∀ (i:Nat) (x y:ByteArray),i<k+1->l[i]?=some x->m[i]?=some y->x=y):=fun i u v hi hu hv=>by
      rcases Nat.lt_or_ge i k with h | h
      ·exact J.out.2 i u v h hu hv
      ·have:i=k:=by omega
       subst this
       rw [HX.out.1] at hu
       rw [HX.out.2] at hv
       cases hu;cases hv
       exact hxy
     clear hxy J
     refine zv (by kernel_rfl) ?_
     repeat (go_big_quiet_step (fail))
     refine wpQuiet_nil ?_
     intro _ hwq
     obtain ⟨⟨nq,osq⟩,hwe⟩:=hwq
     subst hwe
     simp only
     go_wp2_with fail
     go_roundg (n1 - (k+1))
     case measure=>omega
     case rel=>exact ⟨k+1,by simp,by omega,Nat.le_refl _,(⟨HO.out _ _,HF.out⟩:Below w.heap.size w _/\∀ (i:Nat) (x y:ByteArray),i<k+1->l[i]?=some x->m[i]?=some y->x=y)⟩
    ·have e3:(x.toList == y.toList)=false:=k9 hxy
     have HF:Hid (r=false):=zb HP.out (fun h=>by have h5:=HX.out;rw [h] at h5;rw [h5.1] at h5;exact hxy (Option.some.inj h5.2))
     clear hxy J
     refine zv (by kernel_rfl) ?_
     repeat (go_big_quiet_step (fail))
     refine wpQuiet_nil ?_
     intro _ hwq
     obtain ⟨⟨nq,osq⟩,hwe⟩:=hwq
     subst hwe
     simp only
     go_wp2_with fail
     go_ret
     exact ⟨by rw [HF.out];rfl,HO.out _ _⟩
   ·have HF:Hid (r=true):=ky HP.out (qda (by rw [<-HE.out.1,<-HE.out.2];exact hne) (fun i x y hx hy=>J.out.2 i x y (by have:=(List.getElem?_eq_some_iff.1 hx).1;rw [<-HE.out.1] at this;omega) hx hy))
    go_wp2
    go_ret
    exact ⟨by rw [HF.out];rfl,J.out.1⟩
 ·have hb:((n1:Int) != (n2:Int))=true:=by simp;omega
  have HF:Hid (r=false):=zb HP.out (fun h=>hne (by rw [HE.out.1,HE.out.2,h]))
  clear hne
  go_enter Tryz.func166,Tryz.ntmps166
  go_wp2
  go_ret
  exact ⟨by rw [HF.out];rfl,Below.refl _ _⟩
theorem qmr:Tryz.prog.underlying 58=some (.struct (Tryz.prog.fieldsOf 58)):=by kernel_rfl
theorem qph:Tryz.prog.stoodInHeld 58=false:=by kernel_rfl
theorem qnw:Tryz.prog.eqGuardType Tryz.prog.depth 58=false:=by kernel_rfl
theorem qr1:(Tryz.prog.fieldsOf 58).toList=[ ⟨ "Name", 9,0,false, "", "", 0⟩,⟨ "Level", 3,1,false, "", "", 16⟩,⟨ "Assoc", 3,2,false, "", "", 24⟩]:=by kernel_rfl
theorem qez (n m:ByteArray) (a b c d:Int) (W:World):(binOp .neq 58 (.agg #[.string n,.int .i64 a,.int .i64 b]) (.agg #[.string m,.int .i64 c,.int .i64 d])).run Tryz.prog W=.ok (.bool (!((n.toList == m.toList) && (a == c) && (b == d)))) W:=by
 rw [run_neq_struct,run_equalIn_agg _ _ _ _ _ qmr qph,qr1]
 simp [go_sem,Tryz.underlying9,Tryz.underlying3]
 by_cases h1:n.toList=m.toList
 ·by_cases h2:a=c
  ·by_cases h3:b=d
   ·simp [h1,h2,h3]
   ·simp [h1,h2,h3]
  ·simp [h1,h2]
 ·simp [h1]
theorem qh0 (n m:ByteArray) (a b c d:Int):((⟨n,a,b⟩:Tk)=⟨m,c,d⟩)↔((n.toList == m.toList)=true/\a=c/\b=d):=by
 rw [j3]
 constructor
 ·intro h;cases h;exact ⟨rfl,rfl,rfl⟩
 ·rintro ⟨rfl,rfl,rfl⟩;rfl
theorem qk2 (l m:List Tk) (a1:Option Addr) (n1 k1:Nat) (a2:Option Addr) (n2 k2:Nat) (w:World) (h1:Row w 3 a1 n1 k1 (tokC l)) (h2:Row w 3 a2 n2 k2 (tokC m)) (e1:n1=l.length) (e2:n2=m.length) (hn:n1<=1000) (r:Bool) (hp:r=true↔l=m) :
  Calls Tryz.prog 151 #[.slice a1 n1 k1,.slice a2 n2 k2] w fun e w'=>e=.returned (.bool r)/\Below w.heap.size w w':=by
 have HE:Hid (n1=l.length/\n2=m.length):=⟨e1,e2⟩
 have HP:Hid (r=true↔l=m):=hp
 have HR:Hid (Row w 3 a1 n1 k1 (tokC l)/\Row w 3 a2 n2 k2 (tokC m)):=⟨h1,h2⟩
 have q1:n1<=k1/\k1<=9223372036854775807:=by have:=h1.le;have h:=h1.max;unfold maxLen at h;omega
 have q2:n2<=k2/\k2<=9223372036854775807:=by have:=h2.le;have h:=h2.max;unfold maxLen at h;omega
 clear e1 e2 hp h1 h2
 by_cases hne:n1=n2
 ·have hb:((n1:Int) != (n2:Int))=false:=by simp [hne]
  go_enter Tryz.func151,Tryz.ntmps151
  go_wp2
  go_loopg [13] n1 (fun kx s13 wr=>∃ k:Nat,s13=.int .i64 k/\k<=n1/\n1 - k<=kx/\Hid (Below w.heap.size w wr/\∀ (i:Nat) (x y:Tk),i<k->l[i]?=some x->m[i]?=some y->x=y))
  case atStart=>exact ⟨0,rfl,Nat.zero_le _,by omega,(⟨Below.refl _ _,fun i x y h=>absurd h (Nat.not_lt_zero _)⟩:Below w.heap.size w _/\∀ (i:Nat) (x y:Tk),i<0->l[i]?=some x->m[i]?=some y->x=y)⟩
  case round =>
   obtain ⟨k,rfl,hk,hg,J⟩:=hrel
   by_cases hlt:k<n1
   ·obtain ⟨x,hx⟩:∃ x,l[k]?=some x:=⟨l[k]'(by rw [<-HE.out.1];exact hlt),List.getElem?_eq_getElem _⟩
    obtain ⟨y,hy⟩:∃ y,m[k]?=some y:=⟨m[k]'(by rw [<-HE.out.2];omega),List.getElem?_eq_getElem _⟩
    obtain ⟨b1,o1,rfl,c1,d1,f1⟩:=ja (HR.out.1.below J.out.1) hx
    obtain ⟨b2,o2,rfl,c2,d2,f2⟩:=ja (HR.out.2.below J.out.1) hy
    have HX:Hid (l[k]?=some x/\m[k]?=some y):=⟨hx,hy⟩
    clear hx hy
    have hlt2:k<n2:=by omega
    obtain ⟨xn,xl,xa⟩:=x
    obtain ⟨yn,yl,ya⟩:=y
    simp only at c1 d1 f1 c2 d2 f2
    go_upto_region 6 with fail
    have g1:=kh c1
    have g2:=kh c2
    have g3:=kh d1
    have g4:=kh d2
    have g5:=kh f1
    have g6:=kh f2
    have hgd:∀ (W:World) (x y:Operand),(eqGuard .neq 58 x y (.agg #[.string xn,.int .i64 xl,.int .i64 xa]) (.agg #[.string yn,.int .i64 yl,.int .i64 ya])).run Tryz.prog W=.ok () W:=fun W x y=>run_eqGuard_agg W .neq 58 x y _ _ qnw
    have HO:Hid (∀ n os,Below w.heap.size w (onto wr n os)):=fun n os=>qd J.out.1 (ke wr n os)
    clear c1 c2 d1 d2 f1 f2
    by_cases hxy:(⟨xn,xl,xa⟩:Tk)=⟨yn,yl,ya⟩
    ·have e3:∀ W:World,(binOp .neq 58 (.agg #[.string xn,.int .i64 xl,.int .i64 xa]) (.agg #[.string yn,.int .i64 yl,.int .i64 ya])).run Tryz.prog W=.ok (.bool false) W:=fun W=>by
      rw [qez]
      obtain ⟨h1,h2,h3⟩:=(qh0 _ _ _ _ _ _).1 hxy
      rw [h1,h2,h3]
      simp
     have HF:Hid (∀ (i:Nat) (x y:Tk),i<k+1->l[i]?=some x->m[i]?=some y->x=y):=fun i u v hi hu hv=>by
      rcases Nat.lt_or_ge i k with h | h
      ·exact J.out.2 i u v h hu hv
      ·have:i=k:=by omega
       subst this
       rw [HX.out.1] at hu
       rw [HX.out.2] at hv
       cases hu;cases hv
       exact hxy
     clear hxy J
     refine zv (by kernel_rfl) ?_
     repeat (go_big_quiet_step (fail))
     refine wpQuiet_nil ?_
     intro _ hwq
     obtain ⟨⟨nq,osq⟩,hwe⟩:=hwq
     subst hwe
     simp only
     go_wp2_with fail
     go_roundg (n1 - (k+1))
     case measure=>omega
     case rel=>exact ⟨k+1,by simp,by omega,Nat.le_refl _,(⟨HO.out _ _,HF.out⟩:Below w.heap.size w _/\∀ (i:Nat) (x y:Tk),i<k+1->l[i]?=some x->m[i]?=some y->x=y)⟩
    ·have e3:∀ W:World,(binOp .neq 58 (.agg #[.string xn,.int .i64 xl,.int .i64 xa]) (.agg #[.string yn,.int .i64 yl,.int .i64 ya])).run Tryz.prog W=.ok (.bool true) W:=fun W=>by
      rw [qez]
      have h0:((xn.toList == yn.toList) && (xl == yl) && (xa == ya))=false:=by
       cases hb:((xn.toList == yn.toList) && (xl == yl) && (xa == ya))
       ·rfl
       ·rw [Bool.and_eq_true,Bool.and_eq_true] at hb
        exact absurd ((qh0 _ _ _ _ _ _).2 ⟨hb.1.1,by simpa using hb.1.2,by simpa using hb.2⟩) hxy
      rw [h0]
      rfl
     have HF:Hid (r=false):=zb HP.out (fun h=>by have h5:=HX.out;rw [h] at h5;rw [h5.1] at h5;exact hxy (Option.some.inj h5.2))
     clear hxy J
     refine zv (by kernel_rfl) ?_
     repeat (go_big_quiet_step (fail))
     refine wpQuiet_nil ?_
     intro _ hwq
     obtain ⟨⟨nq,osq⟩,hwe⟩:=hwq
     subst hwe
     simp only
     go_wp2_with fail
     go_ret
     exact ⟨by rw [HF.out];rfl,HO.out _ _⟩
   ·have HF:Hid (r=true):=ky HP.out (qda (by rw [<-HE.out.1,<-HE.out.2];exact hne) (fun i x y hx hy=>J.out.2 i x y (by have:=(List.getElem?_eq_some_iff.1 hx).1;rw [<-HE.out.1] at this;omega) hx hy))
    go_wp2
    go_ret
    exact ⟨by rw [HF.out];rfl,J.out.1⟩
 ·have hb:((n1:Int) != (n2:Int))=true:=by simp;omega
  have HF:Hid (r=false):=zb HP.out (fun h=>hne (by rw [HE.out.1,HE.out.2,h]))
  clear hne
  go_enter Tryz.func151,Tryz.ntmps151
  go_wp2
  go_ret
  exact ⟨by rw [HF.out];rfl,Below.refl _ _⟩
theorem qhe (x y:Ru) (xa ya:Option Addr) (xc yc:Nat) (w:World) (h1:Row w 1 xa x.r.length xc (strC x.r)) (h2:Row w 1 ya y.r.length yc (strC y.r)) (hn:x.r.length<=100) (r:Bool) (hp:r=true↔x=y) :
  Calls Tryz.prog 153 #[.agg #[.string x.l,.slice xa x.r.length xc,.string x.p],.agg #[.string y.l,.slice ya y.r.length yc,.string y.p]] w fun e w'=>e=.returned (.bool r)/\Below w.heap.size w w':=by
 obtain ⟨xl,xr,xp⟩:=x
 obtain ⟨yl,yr,yp⟩:=y
 simp only at h1 h2 hn ⊢
 obtain ⟨q,hq⟩:=zr (xr=yr)
 have HQ:Hid (∀ W:World,Below w.heap.size w W->Calls Tryz.prog 166 #[.slice xa xr.length xc,.slice ya yr.length yc] W fun e w'=>e=.returned (.bool q)/\Below W.heap.size W w'):=fun W hW=>qk1 xr yr xa _ xc ya _ yc W (h1.below hW) (h2.below hW) rfl rfl (by omega) q hq
 have HP:Hid (r=((xl.toList == yl.toList) && (xp.toList == yp.toList) && q)):=by
  show _=_
  rw [Bool.eq_iff_iff,hp,Bool.and_eq_true,Bool.and_eq_true,j3,j3,hq]
  constructor
  ·intro h;cases h;exact ⟨⟨rfl,rfl⟩,rfl⟩
  ·rintro ⟨⟨rfl,rfl⟩,rfl⟩;rfl
 have q1:xr.length<=xc/\xc<=9223372036854775807:=by have:=h1.le;have h:=h1.max;unfold maxLen at h;omega
 have q2:yr.length<=yc/\yc<=9223372036854775807:=by have:=h2.le;have h:=h2.max;unfold maxLen at h;omega
 have HB:Hid (∀ o o':Obj,Below w.heap.size w ((w.alloc o).alloc o')):=fun o o'=>qd (qb _ _) (qb _ _)
 generalize xr.length=n at *
 generalize yr.length=m at *
 clear h1 h2 hp hq
 cases e1:(xl.toList == yl.toList)
 ·have HF:Hid (r=false):=by have:=HP.out;rwa [e1] at this
  clear HP
  go_enter Tryz.func153,Tryz.ntmps153
  go_wp2_with fail
  go_ret
  exact ⟨by rw [HF.out];rfl,HB.out _ _⟩
 ·cases e2:(xp.toList == yp.toList)
  ·have HF:Hid (r=false):=by have:=HP.out;rwa [e1,e2] at this
   clear HP
   go_enter Tryz.func153,Tryz.ntmps153
   go_wp2_with fail
   go_ret
   exact ⟨by rw [HF.out];rfl,HB.out _ _⟩
  ·have HF:Hid (r=q):=by have:=HP.out;rwa [e1,e2] at this
   clear HP
   go_enter Tryz.func153,Tryz.ntmps153
   go_wp2_with fail
   refine (HQ.out _ (HB.out _ _)).mono ?_
   rintro e w1 ⟨rfl,hB⟩
   have HB1:Hid (Below w.heap.size w w1):=qd (HB.out _ _) hB
   clear hB
   go_wp2_with fail
   go_ret
   exact ⟨by rw [HF.out];rfl,HB1.out⟩
theorem qiu (l m:List Ru) (a1:Option Addr) (n1 k1:Nat) (a2:Option Addr) (n2 k2:Nat) (w:World) (h1:ks w a1 n1 k1 l) (h2:ks w a2 n2 k2 m) (e1:n1=l.length) (e2:n2=m.length) (hn:n1<=1000) (hs:∀ x∈l,x.r.length<=100) (r:Bool) (hp:r=true↔l=m) :
  Calls Tryz.prog 152 #[.slice a1 n1 k1,.slice a2 n2 k2,.func (.func 153) #[] #[]] w fun e w'=>e=.returned (.bool r)/\Below w.heap.size w w':=by
 have HE:Hid (n1=l.length/\n2=m.length):=⟨e1,e2⟩
 have HP:Hid (r=true↔l=m):=hp
 have HR:Hid (ks w a1 n1 k1 l/\ks w a2 n2 k2 m):=⟨h1,h2⟩
 have HS:Hid (∀ x∈l,x.r.length<=100):=hs
 have q1:=kj h1
 have q2:=kj h2
 clear e1 e2 hp h1 h2 hs
 by_cases hne:n1=n2
 ·have hb:((n1:Int) != (n2:Int))=false:=by simp [hne]
  have HNE:Hid (n1=n2):=hne
  clear hne
  go_enter Tryz.func152,Tryz.ntmps152
  go_wp2
  go_loopg [17] n1 (fun kx s17 wr=>∃ k:Nat,s17=.int .i64 k/\k<=n1/\n1 - k<=kx/\Hid (Below w.heap.size w wr/\∀ (i:Nat) (x y:Ru),i<k->l[i]?=some x->m[i]?=some y->x=y))
  case atStart=>exact ⟨0,rfl,Nat.zero_le _,by omega,(⟨Below.refl _ _,fun i x y h=>absurd h (Nat.not_lt_zero _)⟩:Below w.heap.size w _/\∀ (i:Nat) (x y:Ru),i<0->l[i]?=some x->m[i]?=some y->x=y)⟩
  case round =>
   obtain ⟨k,rfl,hk,hg,J⟩:=hrel
   by_cases hlt:k<n1
   ·obtain ⟨x,hx⟩:∃ x,l[k]?=some x:=⟨l[k]'(by rw [<-HE.out.1];exact hlt),List.getElem?_eq_getElem _⟩
    obtain ⟨y,hy⟩:∃ y,m[k]?=some y:=⟨m[k]'(by rw [<-HE.out.2,<-HNE.out];exact hlt),List.getElem?_eq_getElem _⟩
    obtain ⟨b1,o1,xa,xc,rfl,c1,d1,f1,hr1⟩:=(HR.out.1.below J.out.1).at hx
    obtain ⟨b2,o2,ya,yc,rfl,c2,d2,f2,hr2⟩:=(HR.out.2.below J.out.1).at hy
    have HX:Hid (l[k]?=some x/\m[k]?=some y):=⟨hx,hy⟩
    obtain ⟨q,hq⟩:=zr (x=y)
    have HC:Hid (∀ W:World,Below wr.heap.size wr W->Calls Tryz.prog 153 #[.agg #[.string x.l,.slice xa x.r.length xc,.string x.p],.agg #[.string y.l,.slice ya y.r.length yc,.string y.p]] W fun e w'=>e=.returned (.bool q)/\Below W.heap.size W w'):=fun W hW=>qhe x y xa ya xc yc W (hr1.below hW) (hr2.below hW) (HS.out x (List.mem_of_getElem? HX.out.1)) q hq
    have HQ:Hid (q=true↔x=y):=hq
    clear hx hy hr1 hr2 hq
    have hlt2:k<n2:=by rw [<-HNE.out];exact hlt
    have c2':=qo c2
    have d2':=qo d2
    have f2':=qo f2
    cases q
    ·have HF:Hid (r=false):=zb HP.out (fun h=>by
      have h5:=HX.out
      rw [h] at h5
      rw [h5.1] at h5
      have:=HQ.out.2 (Option.some.inj h5.2)
      cases this)
     go_wp2_with fail
     refine (HC.out _ (qd (qb _ _) (qb _ _))).mono ?_
     rintro e w1 ⟨rfl,hB⟩
     have HB1:Hid (Below w.heap.size w w1):=qd (qd J.out.1 (qd (qb _ _) (qb _ _))) hB
     clear hB HC J
     go_wp2_with fail
     go_ret
     exact ⟨by rw [HF.out];rfl,HB1.out⟩
    ·have HF:Hid (∀ (i:Nat) (x y:Ru),i<k+1->l[i]?=some x->m[i]?=some y->x=y):=fun i u v hi hu hv=>by
      rcases Nat.lt_or_ge i k with h | h
      ·exact J.out.2 i u v h hu hv
      ·have:i=k:=by omega
       subst this
       rw [HX.out.1] at hu
       rw [HX.out.2] at hv
       cases hu;cases hv
       exact HQ.out.1 rfl
     go_wp2_with fail
     refine (HC.out _ (qd (qb _ _) (qb _ _))).mono ?_
     rintro e w1 ⟨rfl,hB⟩
     have HB1:Hid (Below w.heap.size w w1):=qd (qd J.out.1 (qd (qb _ _) (qb _ _))) hB
     clear hB HC J
     go_wp2_with fail
     go_roundg (n1 - (k+1))
     case measure=>omega
     case rel=>exact ⟨k+1,by simp,by omega,Nat.le_refl _,(⟨HB1.out,HF.out⟩:Below w.heap.size w _/\∀ (i:Nat) (x y:Ru),i<k+1->l[i]?=some x->m[i]?=some y->x=y)⟩
   ·have HF:Hid (r=true):=ky HP.out (qda (by rw [<-HE.out.1,<-HE.out.2];exact HNE.out) (fun i x y hx hy=>J.out.2 i x y (by have:=(List.getElem?_eq_some_iff.1 hx).1;rw [<-HE.out.1] at this;omega) hx hy))
    go_wp2
    go_ret
    exact ⟨by rw [HF.out];rfl,J.out.1⟩
 ·have hb:((n1:Int) != (n2:Int))=true:=by simp;omega
  have HF:Hid (r=false):=zb HP.out (fun h=>hne (by rw [HE.out.1,HE.out.2,h]))
  clear hne
  go_enter Tryz.func152,Tryz.ntmps152
  go_wp2
  go_ret
  exact ⟨by rw [HF.out];rfl,Below.refl _ _⟩
def qq0 (F:Nat):Prop:=∀ (G K:Gm) (h k:Hd) (w:World) (r:Bool),IsG w h G->IsG w k K->(r=true↔G=K)->Calls Tryz.prog F #[gv h G,gv k K] w fun e w'=>e=.returned (.bool r)/\Below w.heap.size w w'
theorem qjv:qq0 127:=by
 intro G K h k w r hG hK hp
 obtain ⟨ts,st,ex,rs⟩:=G
 obtain ⟨ta,tc,ra,rc⟩:=h
 obtain ⟨us,su,ey,ss⟩:=K
 obtain ⟨ua,uc,sa,sc⟩:=k
 have hm1:ts.length<=tc/\tc<=9223372036854775807:=by have h1:=hG.tok.le;have h2:=hG.tok.max;simp only at h1 h2;unfold maxLen at h2;omega
 have hm2:us.length<=uc/\uc<=9223372036854775807:=by have h1:=hK.tok.le;have h2:=hK.tok.max;simp only at h1 h2;unfold maxLen at h2;omega
 have hm3:=kj hG.rul
 have hm4:=kj hK.rul
 simp only at hm3 hm4
 have hs1:ts.length<=100:=hG.small.nt
 have hs2:rs.length<=200:=hG.small.nr
 unfold gv
 simp only
 obtain ⟨q1,hq1⟩:=zr (ts=us)
 obtain ⟨q2,hq2⟩:=zr (rs=ss)
 have H1:Hid (∀ W:World,Below w.heap.size w W->Calls Tryz.prog 151 #[.slice ta ts.length tc,.slice ua us.length uc] W fun e w'=>e=.returned (.bool q1)/\Below W.heap.size W w'):=fun W hW=>qk2 ts us ta _ tc ua _ uc W (hG.tok.below hW) (hK.tok.below hW) rfl rfl (by simp only;omega) q1 hq1
 have H2:Hid (∀ W:World,Below w.heap.size w W->Calls Tryz.prog 152 #[.slice ra rs.length rc,.slice sa ss.length sc,.func (.func 153) #[] #[]] W fun e w'=>e=.returned (.bool q2)/\Below W.heap.size W w'):=fun W hW=>qiu rs ss ra _ rc sa _ sc W (hG.rul.below hW) (hK.rul.below hW) rfl rfl (by simp only;omega) (fun x hx=>(hG.small.rl x hx).2.2.1) q2 hq2
 have HP:Hid (r=((st.toList == su.toList) && (ex == ey) && q1 && q2)):=by
  show _=_
  rw [Bool.eq_iff_iff,hp,Bool.and_eq_true,Bool.and_eq_true,Bool.and_eq_true,j3,hq1,hq2,beq_iff_eq]
  constructor
  ·intro h;cases h;exact ⟨⟨⟨rfl,rfl⟩,rfl⟩,rfl⟩
  ·rintro ⟨⟨⟨rfl,rfl⟩,rfl⟩,rfl⟩;rfl
 have HB:Hid (∀ o o':Obj,Below w.heap.size w ((w.alloc o).alloc o')):=fun o o'=>qd (qb _ _) (qb _ _)
 clear hG hK hp hq1 hq2
 generalize ts.length=tn at *
 generalize us.length=un at *
 generalize rs.length=rn at *
 generalize ss.length=sn at *
 cases e1:(st.toList == su.toList)
 ·have HF:Hid (r=false):=by have:=HP.out;rwa [e1] at this
  clear HP
  go_enter Tryz.func127,Tryz.ntmps127
  go_wp2_with fail
  go_ret
  exact ⟨by rw [HF.out];rfl,HB.out _ _⟩
 ·cases e2:(ex == ey)
  ·have HF:Hid (r=false):=by have:=HP.out;rwa [e1,e2] at this
   clear HP
   go_enter Tryz.func127,Tryz.ntmps127
   go_wp2_with fail
   go_ret
   exact ⟨by rw [HF.out];rfl,HB.out _ _⟩
  ·have HF:Hid (r=(q1 && q2)):=by have:=HP.out;rwa [e1,e2] at this
   clear HP
   go_enter Tryz.func127,Tryz.ntmps127
   go_upto_region 1 with fail
   have c0:((w.alloc (.cells #[.slice ta tn tc,.string st,.int .i64 ex,.slice ra rn rc] 25)).alloc (.cells #[.slice ua un uc,.string su,.int .i64 ey,.slice sa sn sc] 25)).cell? ⟨w.heap.size,3,none⟩=some (.slice ra rn rc):=qo (by rw [World.cell?_alloc_mark];rfl) _
   have c1:((w.alloc (.cells #[.slice ta tn tc,.string st,.int .i64 ex,.slice ra rn rc] 25)).alloc (.cells #[.slice ua un uc,.string su,.int .i64 ey,.slice sa sn sc] 25)).cell? ⟨w.heap.size+1,3,none⟩=some (.slice sa sn sc):=by
    have:=World.cell?_alloc_mark (w.alloc (.cells #[.slice ta tn tc,.string st,.int .i64 ex,.slice ra rn rc] 25)) #[.slice ua un uc,.string su,.int .i64 ey,.slice sa sn sc] 25 (0,0) 3
    rw [qt] at this
    rw [this];rfl
   have HBx:Hid (Below w.heap.size w ((w.alloc (.cells #[.slice ta tn tc,.string st,.int .i64 ex,.slice ra rn rc] 25)).alloc (.cells #[.slice ua un uc,.string su,.int .i64 ey,.slice sa sn sc] 25))):=HB.out _ _
   go_wp2_with fail
   refine (H1.out _ HBx.out).mono ?_
   rintro e w1 ⟨rfl,hB⟩
   have c0:=qj hB c0
   have c1:=qj hB c1
   have HB1:Hid (Below w.heap.size w w1):=qd HBx.out hB
   clear hB HBx HB
   cases q1
   ·have HF2:Hid (r=false):=HF.out
    clear HF
    go_wp2_with fail
    go_ret
    exact ⟨by rw [HF2.out];rfl,HB1.out⟩
   ·have HF2:Hid (r=q2):=HF.out
    clear HF
    go_wp2_with fail
    refine (H2.out _ HB1.out).mono ?_
    rintro e w2 ⟨rfl,hB⟩
    have HB2:Hid (Below w.heap.size w w2):=qd HB1.out hB
    clear hB
    go_wp2_with fail
    go_ret
    exact ⟨by rw [HF2.out];rfl,HB2.out⟩
theorem Tryz.size165:(Tryz.prog.info? 165).map (·.size)=some 2:=by kernel_rfl
theorem Tryz.lies165:liesAt Tryz.prog Tryz.prog.depth 165 (2 / Tryz.prog.cellsOf 165) 0 165 1=true:=by kernel_rfl
theorem qal (b:Nat) (v:Value) (l:List UInt8) (w:World) (h:Bld w b v l) :
  Calls Tryz.prog 173 #[.pointer (some ⟨b,0,none⟩)] w fun e w'=>e=.returned (.tuple #[])/\w'.heap[b]?=some (.cells #[.pointer (some ⟨b,0,none⟩),v] 165 (0,0))/\Bld w' b v l/\za w b v w' v:=by
 obtain ⟨j,hj,hjs⟩:=Option.map_eq_some_iff.1 Tryz.size165
 obtain ⟨p,hp,rfl | rfl⟩:=h.head
 ·have h0:w.cell? ⟨b,0,none⟩=some (.pointer none):=by rw [qe hp];rfl
  have hsh:w.shape? b=some (165,2):=by simp [World.shape?,hp]
  have hfz:w.frozen? ⟨b,0,none⟩=false:=qi hp 0
  have HE:Hid ((w.setCell ⟨b,0,none⟩ (.pointer (some ⟨b,0,none⟩))).heap[b]?=some (.cells #[.pointer (some ⟨b,0,none⟩),v] 165 (0,0))/\Bld (w.setCell ⟨b,0,none⟩ (.pointer (some ⟨b,0,none⟩))) b v l/\za w b v (w.setCell ⟨b,0,none⟩ (.pointer (some ⟨b,0,none⟩))) v):=by
   have h1:(w.setCell ⟨b,0,none⟩ (.pointer (some ⟨b,0,none⟩))).heap[b]?=some (.cells #[.pointer (some ⟨b,0,none⟩),v] 165 (0,0)):=by simp [World.setCell,Array.getElem?_modify,hp]
   refine ⟨h1,⟨⟨_,h1,.inr rfl⟩,qh h.own (fun i hi=>Below.heap_setCell _ _ _ _ (fun e=>by subst e;exact h.apart hi)),h.apart⟩,⟨(Kept.refl _ _).setCell _ _ (fun _=>.inl rfl),fun _ h=>.inl h⟩⟩
  clear hp h
  go_enter Tryz.func173,Tryz.ntmps173
  go_wp2
  rw [Lib.run_to_unsafe w ⟨b,0,none⟩ Tryz.underlying163 Tryz.underlying199 hj (by rw [hjs];decide) hsh (Nat.zero_lt_succ 1)]
  simp only [Result.andThen]
  rw [Oper.upon_value]
  go_wp2
  rw [run_callFunc_extern Tryz.func182 (by kernel_rfl) (by kernel_rfl) (by kernel_rfl) (e:=Extern.AbiNoEscape.same) (by kernel_rfl)]
  rw [Lib.run_noEscape]
  simp only [Result.andThen]
  rw [Oper.upon_value]
  go_wp2
  rw [Lib.run_from_unsafe w ⟨b,0,none⟩ Tryz.underlying199 Tryz.underlying163 hj hsh Tryz.lies165]
  simp only [Result.andThen]
  rw [Oper.upon_value]
  go_wp2
  go_end0
  exact ⟨rfl,HE.out⟩
 ·have h0:w.cell? ⟨b,0,none⟩=some (.pointer (some ⟨b,0,none⟩)):=by rw [qe hp];rfl
  have HE:Hid (w.heap[b]?=some (.cells #[.pointer (some ⟨b,0,none⟩),v] 165 (0,0))/\Bld w b v l):=⟨hp,h⟩
  clear hp h
  go_enter Tryz.func173,Tryz.ntmps173
  go_wp2
  rw [Lib.run_neq_ptr_same w _ Tryz.underlying163 hj]
  go_wp2
  go_end0
  exact ⟨rfl,HE.out.1,HE.out.2,za.refl _ _ _⟩
theorem qd9 {w:World} {b:Nat} {o o':Obj} (h:w.heap[b]?=some o):(w.alloc o').heap[b]?=some o:=by
 rw [Below.heap_alloc _ _ _ (Array.getElem?_eq_some_iff.1 h).1];exact h
theorem qhf {w w1 w2:World} {b:Nat} {v v':Value} {l l':List UInt8} (hb:w1.heap[b]?=some (.cells #[.pointer (some ⟨b,0,none⟩),v] 165 (0,0))) (h:Bld w1 b v l) (hm:za w b v w1 v)
  (hown:w2.ownsRow 0 5 1 v' l'.length (Lib.byteCells l')) (hk:Kept (fun k=>v.ownBlock=some k) w1 w2) (hl:∀ k,v'.ownBlock=some k->v.ownBlock=some k\/w1.heap.size<=k) :
  Bld (w2.setCell ⟨b,1,none⟩ v') b v' l'/\za w b v (w2.setCell ⟨b,1,none⟩ v') v':=by
 have hlt:b<w1.heap.size:=(Array.getElem?_eq_some_iff.1 hb).1
 have h2:w2.heap[b]?=some (.cells #[.pointer (some ⟨b,0,none⟩),v] 165 (0,0)):=by rw [hk.block b hlt h.apart];exact hb
 have hap:v'.ownBlock≠some b:=Lib.ownBlock_ne hown h2 (by decide)
 have h3:(w2.setCell ⟨b,1,none⟩ v').heap[b]?=some (.cells #[.pointer (some ⟨b,0,none⟩),v'] 165 (0,0)):=by simp [World.setCell,Array.getElem?_modify,h2]
 refine ⟨⟨⟨_,h3,.inr rfl⟩,qh hown (fun i hi=>Below.heap_setCell _ _ _ _ (fun e=>by subst e;exact hap hi)),hap⟩,?_,fun k hk2=>?_⟩
 ·exact (hm.1.trans hk (fun i _ hi=>.inr hi)).setCell _ _ (fun _=>.inl rfl)
 ·rcases hl k hk2 with h1 | h1
  ·exact .inl h1
  ·exact .inr (Nat.le_trans hm.1.size h1)
theorem qbk (b:Nat) (v:Value) (l:List UInt8) (s:ByteArray) (w:World) (h:Bld w b v l) (hn:l.length+s.size<=100000000) :
  Calls Tryz.prog 162 #[.pointer (some ⟨b,0,none⟩),.string s] w fun e w'=>∃ v',e=.returned (.tuple #[.int .i64 s.size,.nilIface])/\Bld w' b v' (l++by8 s)/\za w b v w' v':=by
 obtain ⟨i0,hi,hz0,hz1,hz2⟩:=info_parts Tryz.info5
 have HC:Hid (Calls Tryz.prog 173 #[.pointer (some ⟨b,0,none⟩)] w fun e w'=>e=.returned (.tuple #[])/\w'.heap[b]?=some (.cells #[.pointer (some ⟨b,0,none⟩),v] 165 (0,0))/\Bld w' b v l/\za w b v w' v):=qal b v l w h
 clear h
 go_enter Tryz.func162,Tryz.ntmps162
 go_wp2_with fail
 refine HC.out.mono ?_
 rintro e w1 ⟨rfl,hb,h1,hm⟩
 obtain ⟨v',w2,hr,hown,hk,hl⟩:=qfl (P:=Tryz.prog) w1 56 9 56 5 i0 Tryz.underlying56 Tryz.underlying9 hi hz0 hz1 hz2 v l.length (Lib.byteCells l) h1.own s hn
 have hE:=qhf (l':=l++by8 s) hb h1 hm (by rw [Lib.byteCells_append,List.length_append,qy];exact hown) hk hl
 have hlt:b<w1.heap.size:=(Array.getElem?_eq_some_iff.1 hb).1
 have h2:w2.heap[b]?=some (.cells #[.pointer (some ⟨b,0,none⟩),v] 165 (0,0)):=by rw [hk.block b hlt h1.apart];exact hb
 obtain ⟨a0,n0,c0',hvs⟩:∃ a n c,v=.slice a n c:=by obtain ⟨a,c,e,-⟩:=zh h1.own;exact ⟨a,_,c,e⟩
 obtain ⟨a1,n1,c1',hvs'⟩:∃ a n c,v'=.slice a n c:=by obtain ⟨a,c,e,-⟩:=zh hown;exact ⟨a,_,c,e⟩
 subst hvs hvs'
 have q1:w1.cell? ⟨b,1,none⟩=some (.slice a0 n0 c0'):=by rw [qe hb];rfl
 have d1:w2.cell? ⟨b,1,none⟩=some (.slice a0 n0 c0'):=by rw [qe h2];rfl
 have f1:w2.frozen? ⟨b,1,none⟩=false:=qi h2 1
 have HE:Hid (Bld (w2.setCell ⟨b,1,none⟩ (.slice a1 n1 c1')) b (.slice a1 n1 c1') (l++by8 s)/\za w b (.slice a0 n0 c0') (w2.setCell ⟨b,1,none⟩ (.slice a1 n1 c1')) (.slice a1 n1 c1')):=hE
 clear hE hown hk hl hb h1 hm h2 HC
 go_wp2_with (at_builtin;refine Lib.wpList_append_run _ rfl _ _ _ _ rfl _ _ rfl rfl _ _ hr ?_)
 go_ret2
 exact ⟨_,rfl,HE.out⟩
theorem qgc (b:Nat) (v:Value) (l:List UInt8) (c:UInt8) (w:World) (h:Bld w b v l) (hn:l.length+1<=100000000) :
  Calls Tryz.prog 164 #[.pointer (some ⟨b,0,none⟩),.int .u8 c.toNat] w fun e w'=>∃ v',e=.returned .nilIface/\Bld w' b v' (l++[c])/\za w b v w' v':=by
 obtain ⟨i0,hi,hz0,hz1,hz2⟩:=info_parts Tryz.info5
 have HC:Hid (Calls Tryz.prog 173 #[.pointer (some ⟨b,0,none⟩)] w fun e w'=>e=.returned (.tuple #[])/\w'.heap[b]?=some (.cells #[.pointer (some ⟨b,0,none⟩),v] 165 (0,0))/\Bld w' b v l/\za w b v w' v):=qal b v l w h
 clear h
 obtain ⟨x,hx⟩:∃ x:Int,x=c.toNat:=⟨_,rfl⟩
 have HX:Hid (x=c.toNat):=hx
 rw [<-hx]
 clear hx
 go_enter Tryz.func164,Tryz.ntmps164
 go_wp2_with fail
 refine HC.out.mono ?_
 rintro e w1 ⟨rfl,hb,h1,hm⟩
 obtain ⟨v',w2,hr,hown,hk,hl⟩:=qai (P:=Tryz.prog) (w1.alloc (.cells #[.int .u8 x] 5)) 56 56 5 i0 _ 1 1 Tryz.underlying56 hi hz0 hz1 hz2 rfl (by decide) v l.length (Lib.byteCells l) (World.ownsRow.alloc h1.own _) ⟨w1.heap.size,0,none⟩ 1 1 [.int .u8 x] rfl
  (fun j u hj=>by
   match j,hj with
   | 0,hj=>simp at hj;subst hj;simp [Addr.add])
  (fun u hu=>by simp at hu;subst hu;rfl) (by unfold maxLen;omega) (by omega)
 have hlt:b<w1.heap.size:=(Array.getElem?_eq_some_iff.1 hb).1
 have hba:(w1.alloc (.cells #[.int .u8 x] 5)).heap[b]?=some (.cells #[.pointer (some ⟨b,0,none⟩),v] 165 (0,0)):=qd9 hb
 have h1a:Bld (w1.alloc (.cells #[.int .u8 x] 5)) b v l:=h1.below ((Below.refl _ _).alloc (Nat.le_refl _) _)
 have hma:za w b v (w1.alloc (.cells #[.int .u8 x] 5)) v:=⟨hm.1.alloc _,hm.2⟩
 have hE:=qhf (l':=l++[c]) hba h1a hma (by rw [Lib.byteCells_append,List.length_append];have e:Lib.byteCells [c]=[.int .u8 x]:=(by rw [HX.out];rfl);rw [e];exact hown) hk hl
 have h2:w2.heap[b]?=some (.cells #[.pointer (some ⟨b,0,none⟩),v] 165 (0,0)):=by rw [hk.block b (by simp;omega) h1.apart];exact hba
 obtain ⟨a0,n0,c0',hvs⟩:∃ a n c,v=.slice a n c:=by obtain ⟨a,c,e,-⟩:=zh h1.own;exact ⟨a,_,c,e⟩
 obtain ⟨a1,n1,c1',hvs'⟩:∃ a n c,v'=.slice a n c:=by obtain ⟨a,c,e,-⟩:=zh hown;exact ⟨a,_,c,e⟩
 subst hvs hvs'
 have q1:w1.cell? ⟨b,1,none⟩=some (.slice a0 n0 c0'):=by rw [qe hb];rfl
 have d1:w2.cell? ⟨b,1,none⟩=some (.slice a0 n0 c0'):=by rw [qe h2];rfl
 have f1:w2.frozen? ⟨b,1,none⟩=false:=qi h2 1
 have HE:Hid (Bld (w2.setCell ⟨b,1,none⟩ (.slice a1 n1 c1')) b (.slice a1 n1 c1') (l++[c])/\za w b (.slice a0 n0 c0') (w2.setCell ⟨b,1,none⟩ (.slice a1 n1 c1')) (.slice a1 n1 c1')):=hE
 clear hE hown hk hl hb h1 hm h2 HC hba h1a hma
 go_wp2_with (at_builtin;refine Lib.wpList_append_run _ rfl _ _ _ _ rfl _ _ rfl rfl _ _ hr ?_)
 go_ret
 exact ⟨_,rfl,HE.out⟩
theorem qdt (b:Nat) (v:Value) (l:List UInt8) (w:World) (h:Bld w b v l) (h0:l≠[]) (hn:l.length<=100000000) :
  Calls Tryz.prog 149 #[.pointer (some ⟨b,0,none⟩)] w fun e w'=>e=.returned (.string ⟨l.toArray⟩)/\Kept (Foot b v) w w':=by
 have hl0:l.length≠0:=by simpa using h0
 obtain ⟨p,hp,-⟩:=h.head
 have hown:=h.own
 obtain ⟨g,cap,cur,rfl,-,hg,hnc,hcm,hcs,htake⟩:∃ g cap cur,v=.slice (some ⟨g,0,none⟩) l.length cap/\0<=g/\w.heap[g]?=some (.cells cur 5 (0,0))/\l.length<=cap/\cap<=maxLen/\cur.size=cap * 1/\cur.toList.take (l.length * 1)=Lib.byteCells l:=by
  rcases hown.2 with ⟨_,hz⟩ | ⟨g,cap,cur,hv,r⟩
  ·exact absurd hz hl0
  ·exact ⟨g,cap,cur,hv,r⟩
 have hco:Tryz.prog.cellsOf 5=1:=by kernel_rfl
 have c1:w.drew.cell? ⟨b,1,none⟩=some (.slice (some ⟨g,0,none⟩) l.length cap):=by
  have:w.drew.heap[b]?=some (.cells #[.pointer p,.slice (some ⟨g,0,none⟩) l.length cap] 165 (0,0)):=hp
  rw [qe this];rfl
 have hSD:(Builtin.unsafeSliceData_ #[56] 175 #[.slice (some ⟨g,0,none⟩) l.length cap]).run Tryz.prog w.drew=.ok (.pointer (some ⟨g,0,none⟩)) w.drew:=Lib.run_unsafeSliceData_row _ _ _ _ _ _ (by omega)
 have hUS:(Builtin.unsafeString_ #[175,3] 9 #[.pointer (some ⟨g,0,none⟩),.int .i64 l.length]).run Tryz.prog w.drew=.ok (.string ⟨l.toArray⟩) (w.drew.freeze ⟨g,0,none⟩ l.length):=by
  refine Lib.run_unsafeString_row w.drew 175 3 9 5 Tryz.underlying175 hco g cur.size (by have hg':w.drew.heap[g]?=some (.cells cur 5 (0,0)):=hg;simp [World.shape?,hg']) l h0 (by omega) (by omega) ?_
  intro j x hx
  exact hown.cells (g:=g) rfl j (.int .u8 x.toNat) (by simp [Lib.byteCells,hx])
 have HK:Hid (Kept (Foot b (.slice (some ⟨g,0,none⟩) l.length cap)) w (w.drew.freeze ⟨g,0,none⟩ l.length)):=by
  refine (Kept.refl _ w).drew.trans (T:=fun k=>k=g) ?_ (fun i _ e=>.inr (by subst e;rfl))
  unfold World.freeze
  split
  ·exact Kept.refl _ _
  ·exact ⟨rfl,rfl,rfl,by simp,fun k _ hk=>by
    simp only [Array.getElem?_modify]
    rw [if_neg (fun e=>hk e.symm)]⟩
 have mx:=qay
 generalize hlen:l.length=n at *
 clear hown hp hg htake hcs hcm h
 go_enter Tryz.func149,Tryz.ntmps149
 go_wp2
 go_region
 all_goals (go_wp2;go_ret;exact ⟨rfl,HK.out⟩)
theorem qnx (w:World) (b j:Nat) (u:Value) (o:Obj) (hb:b<w.heap.size):((w.setCell ⟨b,j,none⟩ u).alloc o).heap=((w.alloc o).setCell ⟨b,j,none⟩ u).heap:=by
 have e:(w.setCell ⟨b,j,none⟩ u).heap.size=w.heap.size:=by simp [World.setCell]
 apply Array.ext_getElem?
 intro i
 rcases Nat.lt_trichotomy i w.heap.size with h | h | h
 ·rw [Below.heap_alloc _ _ _ (by omega)]
  by_cases hi:i=b
  ·subst hi
   simp only [World.setCell,Array.getElem?_modify,if_pos]
   rw [Below.heap_alloc _ _ _ hb]
  ·rw [Below.heap_setCell _ _ _ _ hi,Below.heap_setCell _ _ _ _ hi,Below.heap_alloc _ _ _ h]
 ·rw [Below.heap_setCell _ _ _ _ (by simp only;omega)]
  subst h
  have h1:=heap_alloc_new (w.setCell ⟨b,j,none⟩ u) o
  rw [e] at h1
  rw [h1,heap_alloc_new w o]
 ·rw [Array.getElem?_eq_none (by simp;omega),Array.getElem?_eq_none (by simp [World.setCell];omega)]
theorem qjw (b n:Nat) (w:World) (hbk:w.heap[b]?=some (.cells #[.pointer (some ⟨b,0,none⟩),.slice none 0 0] 165 (0,0))) (hn:n<=100000000) :
  Calls Tryz.prog 183 #[.pointer (some ⟨b,0,none⟩),.int .i64 n] w fun e w'=>∃ v',e=.returned (.tuple #[])/\Bld w' b v' []/\za w b (.slice none 0 0) w' v':=by
 obtain ⟨cs,hrun,hle,hmax⟩:=Lib.run_makeNoZero (P:=Tryz.prog) w.drew #[3] 56 5 Tryz.underlying56 n (by omega)
 have hw:IntKind.i64.wrap (IntKind.i64.wrap 0+(n:Int))=n:=by
  rw [IntKind.wrap_i64,IntKind.wrap_i64]
  omega
 have hcall:(callFunc 190 #[.int .i64 (IntKind.i64.wrap (IntKind.i64.wrap 0+(n:Int)))]).run Tryz.prog w.drew=.ok (.value (.slice (some ⟨w.drew.heap.size,0,none⟩) n cs.size)) (w.drew.drew.drew.alloc (.cells cs 5)):=by
  rw [hw,run_callFunc_extern Tryz.func190 (by kernel_rfl) (by kernel_rfl) (by kernel_rfl) (e:=Extern.BytealgMakeNoZero.makeNoZero #[3] #[56]) (by kernel_rfl),hrun]
  rfl
 have hlt:b<w.heap.size:=(Array.getElem?_eq_some_iff.1 hbk).1
 have c1:w.drew.cell? ⟨b,1,none⟩=some (.slice none 0 0):=by
  have:w.drew.heap[b]?=_:=hbk
  rw [qe this];rfl
 have hba:(w.alloc (.cells cs 5)).heap[b]?=some (.cells #[.pointer (some ⟨b,0,none⟩),.slice none 0 0] 165 (0,0)):=qd9 hbk
 have c2:(w.alloc (.cells cs 5)).cell? ⟨b,1,none⟩=some (.slice none 0 0):=by rw [qe hba];rfl
 have f2:(w.alloc (.cells cs 5)).frozen? ⟨b,1,none⟩=false:=qi hba 1
 have hsz:(Tryz.prog.info? 5).map (·.size)=some 1:=by kernel_rfl
 have hcopy:∀ W:World,(Builtin.copy_ #[56,56] 3 #[.slice (some ⟨w.heap.size,0,none⟩) 0 cs.size,.slice none 0 0]).run Tryz.prog W=.ok (goInt 0) W :=
  fun W=>run_copy_none W 56 56 3 5 _ _ 0 cs.size 0 0 Tryz.underlying56 hsz rfl
 have hm:=hmax (by unfold maxLen;omega)
 have HF:Hid (∀ q:World,q.heap=((w.setCell ⟨b,1,none⟩ (.slice (some ⟨w.heap.size,0,none⟩) 0 cs.size)).alloc (.cells cs 5)).heap->q.os=w.os->q.tape=w.tape->q.output=w.output->Bld q b (.slice (some ⟨w.heap.size,0,none⟩) 0 cs.size) []/\za w b (.slice none 0 0) q (.slice (some ⟨w.heap.size,0,none⟩) 0 cs.size)):=by
  intro q e1 e2 e3 e4
  rw [qnx w b 1 _ _ hlt] at e1
  have hown:(w.alloc (.cells cs 5)).ownsRow 0 5 1 (.slice (some ⟨w.heap.size,0,none⟩) 0 cs.size) ([]:List UInt8).length (Lib.byteCells []) :=
   ⟨rfl,.inr ⟨w.heap.size,cs.size,cs,rfl,Nat.zero_le _,heap_alloc_new w _,Nat.zero_le _,hm,by simp,rfl⟩⟩
  have hB0:Bld w b (.slice none 0 0) []:=⟨⟨_,hbk,.inr rfl⟩,World.ownsRow_nil _ _ _ _,by simp [Value.ownBlock]⟩
  have hE:=qhf (w:=w) (w1:=w) (w2:=w.alloc (.cells cs 5)) (v':=.slice (some ⟨w.heap.size,0,none⟩) 0 cs.size) (l':=[]) hbk hB0 (za.refl _ _ _) hown ((Kept.refl _ _).alloc _)
   (fun k hk=>by simp [Value.ownBlock] at hk;exact .inr (by omega))
  obtain ⟨⟨⟨p,h1,h2⟩,h3,h4⟩,⟨h5,h6⟩⟩:=hE
  exact ⟨⟨⟨p,by rw [e1];exact h1,h2⟩,qh h3 (fun i _=>by rw [e1]),h4⟩,⟨e2,e3,e4,by rw [e1];exact h5.size,fun k hk hf=>by rw [e1];exact h5.block k hk hf⟩,h6⟩
 have mx:=qay
 clear hw hbk hba hmax hrun hsz
 go_enter Tryz.func183,Tryz.ntmps183
 go_wp2
 go_region
 all_goals (go_wp2;go_end0;exact ⟨_,rfl,HF.out _ rfl rfl rfl rfl⟩)
theorem qms (b n:Nat) (w:World) (h:Bld w b (.slice none 0 0) []) (hn:n<=100000000) :
  Calls Tryz.prog 174 #[.pointer (some ⟨b,0,none⟩),.int .i64 n] w fun e w'=>∃ v',e=.returned (.tuple #[])/\Bld w' b v' []/\za w b (.slice none 0 0) w' v':=by
 have HC:Hid (Calls Tryz.prog 173 #[.pointer (some ⟨b,0,none⟩)] w fun e w'=>e=.returned (.tuple #[])/\w'.heap[b]?=some (.cells #[.pointer (some ⟨b,0,none⟩),.slice none 0 0] 165 (0,0))/\Bld w' b (.slice none 0 0) []/\za w b (.slice none 0 0) w' (.slice none 0 0)):=qal b _ [] w h
 clear h
 go_enter Tryz.func174,Tryz.ntmps174
 go_wp2_with fail
 refine HC.out.mono ?_
 rintro e w1 ⟨rfl,hb,h1,hm⟩
 have c1:w1.cell? ⟨b,1,none⟩=some (.slice none 0 0):=by rw [qe hb];rfl
 have HG:Hid (∀ m,Calls Tryz.prog 183 #[.pointer (some ⟨b,0,none⟩),.int .i64 n] (w1.drewN m) fun e w'=>∃ v',e=.returned (.tuple #[])/\Bld w' b v' []/\za (w1.drewN m) b (.slice none 0 0) w' v'):=fun m=>qjw b n (w1.drewN m) hb hn
 have HM:Hid (za w b (.slice none 0 0) w1 (.slice none 0 0)/\Bld w1 b (.slice none 0 0) []):=⟨hm,h1⟩
 have mx:=qay
 clear hb h1 hm HC
 by_cases h0:0<n
 ·have h0':(0:Int)<(n:Int):=by omega
  go_upto_region 3 with fail
  go_quiet (fail)
  go_wp2_with fail
  refine (HG.out _).mono ?_
  rintro e w2 ⟨v',rfl,hB,hM⟩
  have HE:Hid (Bld w2 b v' []/\za w b (.slice none 0 0) w2 v'):=⟨hB,HM.out.1.trans (za.trans ⟨(Kept.refl _ _).drewN _,fun _ h=>.inl h⟩ hM)⟩
  clear hB hM
  go_wp2_with fail
  go_end0
  exact ⟨v',rfl,HE.out⟩
 ·obtain rfl:n=0:=by omega
  go_upto_region 3 with fail
  go_quiet (fail)
  go_wp2_with fail
  go_end0
  exact ⟨_,rfl,HM.out.2.below (yh (Below.refl _ _) _),HM.out.1.1.drewN _,HM.out.1.2⟩
def sp (l:List (List UInt8)):List UInt8:=l.flatMap fun x=>32 :: x
def jn:List (List UInt8)->List UInt8
 | []=>[]
 | x :: r=>x++sp r
theorem qny (a b:List (List UInt8)):sp (a++b)=sp a++sp b:=by unfold sp;rw [List.flatMap_append]
theorem qr2 (x:List UInt8):sp [x]=32 :: x:=by unfold sp;simp
theorem qjx {l:List (List UInt8)} {k:Nat} {x:List UInt8} (h:l[k]?=some x):sp (l.take (k+1))=sp (l.take k)++32 :: x:=by
 rw [zn h,qny,qr2]
theorem qcf (l:List (List UInt8)) (h:∀ x∈l,x.length<=100):(sp l).length<=101 * l.length:=by
 induction l with
 | nil=>simp [sp]
 | cons x r ih =>
  have h1:=ih (fun y hy=>h y (List.mem_cons_of_mem _ hy))
  have h2:=h x List.mem_cons_self
  have e:sp (x :: r)=(32 :: x)++sp r:=rfl
  rw [e,List.length_append,List.length_cons,List.length_cons]
  omega
def NewB (w wr:World) (b:Nat) (l:List UInt8):Prop:=∃ v,Bld wr b v l/\Below w.heap.size w wr/\∀ k,Foot b v k->w.heap.size<=k
theorem NewB.step {w wr wr':World} {b:Nat} {l':List UInt8} {v v':Value} (hb:Below w.heap.size w wr) (hf:∀ k,Foot b v k->w.heap.size<=k) (h':Bld wr' b v' l') (hm:za wr b v wr' v'):NewB w wr' b l':=by
 refine ⟨v',h',hb.trans (hm.below hb.size hf),?_⟩
 rintro k (rfl | hk)
 ·exact hf k (.inl rfl)
 ·rcases hm.2 k hk with h1 | h1
  ·exact hf k (.inr h1)
  ·exact Nat.le_trans hb.size h1
theorem qam (b:Nat) (l:List UInt8) (s:ByteArray) (w W:World) (h:NewB w W b l) (hn:l.length+s.size<=100000000) :
  Calls Tryz.prog 162 #[.pointer (some ⟨b,0,none⟩),.string s] W fun e w'=>e=.returned (.tuple #[.int .i64 s.size,.nilIface])/\NewB w w' b (l++by8 s):=by
 obtain ⟨v,h1,h2,h3⟩:=h
 refine (qbk b v l s W h1 hn).mono ?_
 rintro e w' ⟨v',rfl,h4,h5⟩
 exact ⟨rfl,NewB.step h2 h3 h4 h5⟩
def qnz (w wr:World) (b:Nat):Prop:=Bld wr b (.slice none 0 0) []/\Below w.heap.size w wr/\∀ k,Foot b (.slice none 0 0) k->w.heap.size<=k
theorem qea (w wr:World) (h:Below w.heap.size w wr):qnz w (wr.alloc (.cells #[.pointer none,.slice none 0 0] 165)) wr.heap.size :=
 ⟨⟨⟨none,heap_alloc_new _ _,.inl rfl⟩,World.ownsRow_nil _ _ _ _,by simp [Value.ownBlock]⟩,qd h (qb _ _),fun k hk=>by
  rcases hk with rfl | hk
  ·exact h.size
  ·simp [Value.ownBlock] at hk⟩
theorem qmt (l:List ByteArray) (ao:Option Addr) (n cap:Nat) (w:World) (hr:Row w 1 ao n cap (strC l)) (hn:n=l.length) (h1:1<=n) (hnn:n<=1000) (hs:∀ x∈l,x.size<=100) :
  Calls Tryz.prog 163 #[.slice ao n cap,.string ⟨#[32]⟩] w fun e w'=>∃ t,e=.returned (.string t)/\by8 t=jn (l.map by8)/\Below w.heap.size w w':=by
 have HN:Hid (n=l.length):=hn
 have HR:Hid (Row w 1 ao n cap (strC l)):=hr
 have HS:Hid (∀ x∈l,x.size<=100):=hs
 have hle:=hr.le
 have hmx:cap<=9223372036854775807:=by have:=hr.max;unfold maxLen at this;omega
 clear hr hn hs
 by_cases hone:n=1
 ·subst hone
  obtain ⟨x,rfl⟩:∃ x,l=[x]:=by
   match l,HN.out with
   | [x],_=>exact ⟨x,rfl⟩
  obtain ⟨b,o,rfl,c0⟩:=jm HR.out (i:=0) (s:=x) rfl
  rw [Nat.add_zero] at c0
  go_enter Tryz.func163,Tryz.ntmps163
  go_wp2
  go_ret
  exact ⟨x,rfl,by simp [jn,sp],Below.refl _ _⟩
 ·have h2:2<=n:=by omega
  obtain ⟨x,r,HL⟩:∃ x r,Hid (l=x :: r):=by
   match l,HN.out with
   | x :: r,_=>exact ⟨x,r,rfl⟩
   | [],h=>exact absurd h (by simp;omega)
  obtain ⟨b,o,rfl,hcells⟩:=HR.out.at (by omega)
  have HC:Hid (∀ (W:World),Below w.heap.size w W->∀ (i:Nat) (s:ByteArray),l[i]?=some s->W.cell? ⟨b,o+i,none⟩=some (.string s)):=fun W hW i s hi=>qj hW (hcells i _ (by unfold strC;rw [List.getElem?_map,hi];rfl))
  have e0:((n:Int) == 0)=false:=by simp;omega
  have e1:((n:Int) == 1)=false:=by simp;omega
  have e2:¬ (9223372036854775807 / ((n:Int) - 1)<=1):=by
   have h3:2<=9223372036854775807 / ((n:Int) - 1):=(Int.le_ediv_iff_mul_le (by omega)).2 (by omega)
   omega
  clear hcells HR hone
  go_enter Tryz.func163,Tryz.ntmps163
  go_upto_block 1 with fail
  go_cut [5] (fun s5 wd=>∃ T:Nat,s5=.int .i64 T/\T<=200000/\wd=w)
  case first =>
   go_wp2_with fail
   go_loop [5,41] (fun s5 s41=>∃ T k:Nat,s5=.int .i64 T/\s41=.int .i64 k/\k<=n/\T<=1000+100 * k) (fun _ s41=>n - (intOf s41).toNat)
   case atStart=>exact ⟨n - 1,0,by congr 1;omega,rfl,Nat.zero_le _,by omega⟩
   case round =>
    obtain ⟨T,k,rfl,rfl,hk,hT⟩:=hrel
    by_cases hlt:k<n
    ·obtain ⟨y,hy⟩:∃ y,l[k]?=some y:=⟨l[k]'(by rw [<-HN.out];exact hlt),List.getElem?_eq_getElem _⟩
     have c0:=HC.out w (Below.refl _ _) k y hy
     have hsz:=HS.out y (List.mem_of_getElem? hy)
     clear hy
     go_wp2_with fail
     go_round
     case rel=>exact ⟨T+y.size,k+1,by simp,by simp,by omega,by omega⟩
     case measure=>simp [intOf];omega
    ·go_wp2_with fail
     go_meet
     exact ⟨T,rfl,by omega,rfl⟩
  case rest =>
   obtain ⟨T,rfl,hT,hwc⟩:=hcut
   subst wc
   have HB0:Hid (qnz w (w.alloc (.cells #[.pointer none,.slice none 0 0] 165)) w.heap.size):=qea w w (Below.refl _ _)
   go_upto_region 19 with fail
   generalize w.alloc (.cells #[.pointer none,.slice none 0 0] 165)=w1 at HB0 ⊢
   obtain ⟨pb,hpb⟩:∃ pb,pb=w.heap.size:=⟨_,rfl⟩
   rw [<-hpb] at HB0 ⊢
   clear hpb
   have HG:Hid (Calls Tryz.prog 174 #[.pointer (some ⟨pb,0,none⟩),.int .i64 T] w1 fun e w'=>∃ v',e=.returned (.tuple #[])/\Bld w' pb v' []/\za w1 pb (.slice none 0 0) w' v'):=qms pb T w1 HB0.out.1 (by omega)
   go_wp2_with fail
   refine HG.out.mono ?_
   rintro e w2 ⟨v2,rfl,hB2,hM2⟩
   have HB1:Hid (NewB w w2 pb []):=NewB.step HB0.out.2.1 HB0.out.2.2 hB2 hM2
   have HW1:Hid (Below w.heap.size w w2):=by obtain ⟨v,-,h,-⟩:=HB1.out;exact h
   have c0:=HC.out w2 HW1.out 0 x (by rw [HL.out];rfl)
   rw [Nat.add_zero] at c0
   have hsx:=HS.out x (by rw [HL.out];exact List.mem_cons_self)
   have HC1:Hid (Calls Tryz.prog 162 #[.pointer (some ⟨pb,0,none⟩),.string x] w2 fun e w'=>e=.returned (.tuple #[.int .i64 x.size,.nilIface])/\NewB w w' pb ([]++by8 x)):=qam pb [] x w w2 HB1.out (by simp;omega)
   clear HG hB2 hM2 HB0
   go_wp2_with fail
   refine HC1.out.mono ?_
   rintro e w3 ⟨rfl,hB3⟩
   have HB3:Hid (NewB w w3 pb (by8 x++sp ((r.map by8).take 0))):=by
    show NewB _ _ _ _
    simpa [sp] using hB3
   clear HC1 hB3 HB1 HW1 c0
   have HRL:Hid (r.length=n - 1):=by have:=HN.out;rw [HL.out,List.length_cons] at this;show _=_;omega
   go_upto_block 3 with fail
   go_cut [65] (fun s65 wd=>Hid (NewB w wd pb (by8 x++sp (r.map by8))))
   case first =>
    go_wp2_with fail
    go_loopg [65] n (fun kx s65 wr=>∃ k:Nat,s65=.int .i64 k/\k<=n - 1/\n - 1 - k<=kx/\Hid (NewB w wr pb (by8 x++sp ((r.map by8).take k))))
    case atStart=>exact ⟨0,rfl,Nat.zero_le _,by omega,HB3⟩
    case round =>
     obtain ⟨k,rfl,hk,hg,J⟩:=hrel
     clear HB3
     by_cases hlt:k<n - 1
     ·obtain ⟨y,hy⟩:∃ y,r[k]?=some y:=⟨r[k]'(by rw [HRL.out];exact hlt),List.getElem?_eq_getElem _⟩
      have hyl:l[k+1]?=some y:=by rw [HL.out];exact hy
      have HWk:Hid (Below w.heap.size w wr):=by obtain ⟨v,-,h,-⟩:=J.out;exact h
      have hsz:=HS.out y (List.mem_of_getElem? hyl)
      have hlen:Hid ((by8 x++sp ((r.map by8).take k)).length<=200000):=by
       show _<=_
       have h1:=qcf ((r.map by8).take k) (fun z hz=>by
        have:=List.mem_of_mem_take hz
        rw [List.mem_map] at this
        obtain ⟨q,hq,rfl⟩:=this
        rw [qy]
        exact HS.out q (by rw [HL.out];exact List.mem_cons_of_mem _ hq))
       rw [List.length_append,qy]
       have h2:((r.map by8).take k).length<=k:=by rw [List.length_take];omega
       have h3:101 * ((r.map by8).take k).length<=101 * k:=Nat.mul_le_mul_left _ h2
       omega
      have c0:=HC.out wr HWk.out (k+1) y hyl
      have c1:wr.cell? ⟨b,o+1+k,none⟩=some (.string y):=by rw [show o+1+k=o+(k+1) by omega];exact c0
      have HC1:Hid (Calls Tryz.prog 162 #[.pointer (some ⟨pb,0,none⟩),.string ⟨#[32]⟩] wr fun e w'=>e=.returned (.tuple #[.int .i64 1,.nilIface])/\NewB w w' pb ((by8 x++sp ((r.map by8).take k))++[32])):=qam pb _ ⟨#[32]⟩ w wr J.out (by have:=hlen.out;have e:(⟨#[32]⟩:ByteArray).size=1:=rfl;omega)
      have HE:Hid ((by8 x++sp ((r.map by8).take k))++[32]++by8 y=by8 x++sp ((r.map by8).take (k+1))):=by
       show _=_
       rw [qjx (x:=by8 y) (by rw [List.getElem?_map,hy];rfl)]
       simp
      have HC2:Hid (∀ W,NewB w W pb ((by8 x++sp ((r.map by8).take k))++[32])->Calls Tryz.prog 162 #[.pointer (some ⟨pb,0,none⟩),.string y] W fun e w'=>e=.returned (.tuple #[.int .i64 y.size,.nilIface])/\NewB w w' pb (by8 x++sp ((r.map by8).take (k+1)))):=fun W hW=>by
       have:=qam pb _ y w W hW (by have:=hlen.out;rw [List.length_append];simp only [List.length_cons,List.length_nil];omega)
       rwa [HE.out] at this
      clear hy hyl c0 hlen HE J
      go_wp2_with fail
      refine HC1.out.mono ?_
      rintro e w4 ⟨rfl,hB4⟩
      have HB4:Hid (NewB w w4 pb ((by8 x++sp ((r.map by8).take k))++[32])):=hB4
      clear hB4
      go_wp2_with fail
      refine (HC2.out _ HB4.out).mono ?_
      rintro e w5 ⟨rfl,hB5⟩
      have HB5:Hid (NewB w w5 pb (by8 x++sp ((r.map by8).take (k+1)))):=hB5
      clear hB5 HB4 HC1 HC2
      go_wp2_with fail
      go_roundg (n - 1 - (k+1))
      case measure=>omega
      case rel=>exact ⟨k+1,by simp,by omega,Nat.le_refl _,HB5⟩
     ·have HF:Hid (NewB w wr pb (by8 x++sp (r.map by8))):=by
       have:=J.out
       rwa [List.take_of_length_le (by rw [List.length_map,HRL.out];omega)] at this
      go_wp2_with fail
      go_meet
      exact HF
   case rest =>
    clear HB3
    obtain ⟨v,hB,hbel,hfoot⟩:=hcut.out
    have hne:by8 x++sp (r.map by8)≠[]:=by
     match r,HRL.out with
     | [],h=>exact absurd h (by simp;omega)
     | y :: r',_=>intro h;have:=congrArg List.length h;rw [List.length_append] at this;simp [sp] at this
    have HS2:Hid (Calls Tryz.prog 149 #[.pointer (some ⟨pb,0,none⟩)] wc fun e w'=>e=.returned (.string ⟨(by8 x++sp (r.map by8)).toArray⟩)/\Kept (Foot pb v) wc w'):=qdt pb v _ wc hB hne (by
     have h1:=qcf (r.map by8) (fun z hz=>by
      rw [List.mem_map] at hz
      obtain ⟨q,hq,rfl⟩:=hz
      rw [qy]
      exact HS.out q (by rw [HL.out];exact List.mem_cons_of_mem _ hq))
     rw [List.length_append,qy]
     rw [List.length_map,HRL.out] at h1
     omega)
    have HK:Hid (∀ w',Kept (Foot pb v) wc w'->Below w.heap.size w w'):=fun w' hk=>hbel.trans (hk.below hbel.size (fun k hk hf=>by have:=hfoot k hf;omega))
    clear hB hbel hfoot hne
    go_wp2_with fail
    refine HS2.out.mono ?_
    rintro e w6 ⟨rfl,hK⟩
    have HB6:Hid (Below w.heap.size w w6):=HK.out _ hK
    clear hK HS2
    generalize hq:(by8 x++sp (r.map by8)).toArray=q
    have HQ:Hid ((by8 x++sp (r.map by8)).toArray=q):=hq
    clear hq
    go_wp2_with fail
    go_ret
    exact ⟨_,rfl,by rw [<-HQ.out,HL.out];rfl,HB6.out⟩
def qbn (l:List (List UInt8)):List UInt8:=jn l++[10]
theorem qiv (l:List ByteArray) (ao:Option Addr) (n cap b:Nat) (v:Value) (bs:List UInt8) (w:World) (hr:Row w 1 ao n cap (strC l)) (hn:n=l.length) (h1:1<=n) (hnn:n<=1000) (hs:∀ x∈l,x.size<=100) (hB:Bld w b v bs) (hbs:bs.length<=50000000) :
  Calls Tryz.prog 146 #[.pointer (some ⟨b,0,none⟩),.slice ao n cap] w fun e w'=>∃ v',e=.returned (.tuple #[])/\Bld w' b v' (bs++qbn (l.map by8))/\za w b v w' v':=by
 have HJ:Hid (Calls Tryz.prog 163 #[.slice ao n cap,.string ⟨#[32]⟩] w fun e w'=>∃ t,e=.returned (.string t)/\by8 t=jn (l.map by8)/\Below w.heap.size w w'):=qmt l ao n cap w hr hn h1 hnn hs
 have HB:Hid (Bld w b v bs):=hB
 have HLN:Hid ((jn (l.map by8)).length<=200000):=by
  show _<=_
  match l,hn,hs with
  | [],_,_=>simp [jn]
  | x :: r,hn,hs =>
   have h2:=qcf (r.map by8) (fun z hz=>by
    rw [List.mem_map] at hz
    obtain ⟨q,hq,rfl⟩:=hz
    rw [qy]
    exact hs q (List.mem_cons_of_mem _ hq))
   have h3:=hs x List.mem_cons_self
   rw [List.map_cons]
   unfold jn
   rw [List.length_append,qy]
   rw [List.length_map] at h2
   rw [List.length_cons] at hn
   omega
 clear hr hn hs hB
 go_enter Tryz.func146,Tryz.ntmps146
 go_wp2_with fail
 refine HJ.out.mono ?_
 rintro e w1 ⟨t,rfl,ht,hb⟩
 have hts:t.size<=200000:=by rw [<-qy,ht];exact HLN.out
 have H1:Hid (Calls Tryz.prog 162 #[.pointer (some ⟨b,0,none⟩),.string t] w1 fun e w'=>∃ v',e=.returned (.tuple #[.int .i64 t.size,.nilIface])/\Bld w' b v' (bs++by8 t)/\za w1 b v w' v'):=qbk b v bs t w1 (HB.out.below hb) (by omega)
 have HT:Hid (by8 t=jn (l.map by8)):=ht
 have HM:Hid (za w b v w1 v):=za.of_below hb
 clear ht hb HJ
 go_wp2_with fail
 refine H1.out.mono ?_
 rintro e w2 ⟨v2,rfl,hB2,hM2⟩
 have H2:Hid (Calls Tryz.prog 164 #[.pointer (some ⟨b,0,none⟩),.int .u8 10] w2 fun e w'=>∃ v',e=.returned .nilIface/\Bld w' b v' (bs++by8 t++[10])/\za w2 b v2 w' v'):=qgc b v2 (bs++by8 t) 10 w2 hB2 (by rw [List.length_append,qy];omega)
 have HM2:Hid (za w b v w2 v2):=HM.out.trans hM2
 clear hB2 hM2 H1 HM
 go_wp2_with fail
 refine H2.out.mono ?_
 rintro e w3 ⟨v3,rfl,hB3,hM3⟩
 have HE:Hid (Bld w3 b v3 (bs++qbn (l.map by8))/\za w b v w3 v3):=⟨by unfold qbn;rw [<-HT.out,<-List.append_assoc];exact hB3,HM2.out.trans hM3⟩
 clear hB3 hM3 H2
 go_wp2_with fail
 go_end0
 exact ⟨v3,rfl,HE.out⟩
def Pow (w:World):Prop:=∀ i:Nat,i<20->w.cell? ⟨3,i,none⟩=some (.int .u64 ((10 ^ i:Nat):Int))
theorem Pow.below {w w':World} (h:Pow w) (hb:Below w.heap.size w w'):Pow w':=fun i hi=>qj hb (h i hi)
theorem qe0 (b:Bool) (w:World):Calls Tryz.prog 193 #[.bool b] w fun e w'=>e=.returned (.int .i64 (if b then 1 else 0))/\w'=w:=by
 cases b
 ·go_enter Tryz.func193,Tryz.ntmps193
  go_wp2
  go_ret
  exact ⟨rfl,rfl⟩
 ·go_enter Tryz.func193,Tryz.ntmps193
  go_wp2
  go_ret
  exact ⟨rfl,rfl⟩
theorem qk3 (x:Nat) (w:World) (hx:x<=64):Calls Tryz.prog 191 #[.int .i64 x] w fun e w'=>e=.returned (.int .i64 ((x * 78913) / 262144:Nat))/\w'=w:=by
 go_enter Tryz.func191,Tryz.ntmps191
 go_wp2
 go_ret
 exact ⟨rfl,rfl⟩
theorem qk4 (k:IntKind) (s:ByteArray) (i:Nat) (h:i<s.size) (W:World):(Instr.index 9 (.string s) (.int k (i:Int))).run Tryz.prog W=.ok (.int .u8 (bt (by8 s) i)) W:=by
 rw [run_index_string W 9 s k (i:Int) Tryz.underlying9,dif_pos ⟨by omega,by omega⟩]
 rw [<-qqw s i h]
 rfl
def bitsOf (n:Nat):Nat:=if n=0 then 0 else if n<2 then 1 else if n<4 then 2 else if n<8 then 3 else if n<16 then 4 else if n<32 then 5 else if n<64 then 6 else if n<128 then 7 else 8
def len16 (n:Nat):Nat:=if 256<=n then 8+bitsOf (n / 256) else bitsOf n
theorem qcg (n:Nat):bitsOf n<=8:=by unfold bitsOf;(repeat' split);all_goals omega
theorem qk5 (n:Nat) (w:World) (hn:n<=9999):Calls Tryz.prog 192 #[.int .u64 n] w fun e w'=>e=.returned (.int .i64 (len16 n:Nat))/\w'=w:=by
 go_enter Tryz.func192,Tryz.ntmps192
 go_name_bytes L8 hL8
 have hall:∀ i:Nat,i<256->∀ W:World,(Instr.index 9 (.string L8) (.int .u8 (i:Int))).run Tryz.prog W=.ok (.int .u8 (bitsOf i:Nat)) W:=fun i h W=>by
  have hsz:L8.size=256:=by rw [<-hL8];kernel_rfl
  rw [qk4 .u8 _ i (by omega) W]
  have all:((List.range 256).all fun i=>bt (by8 L8) i == ((bitsOf i:Nat):Int))=true:=by rw [<-hL8];kernel_rfl
  have:=List.all_eq_true.1 all i (List.mem_range.2 h)
  rw [beq_iff_eq] at this
  rw [this]
 have HA:Hid (∀ i:Nat,i<256->∀ W:World,(Instr.index 9 (.string L8) (.int .u8 (i:Int))).run Tryz.prog W=.ok (.int .u8 (bitsOf i:Nat)) W):=hall
 clear hall hL8
 obtain ⟨x,hx⟩:∃ x:Int,x=n:=⟨_,rfl⟩
 have HX:Hid (x=n):=hx
 have hx0:0<=x:=by omega
 have hx1:x<=9999:=by omega
 rw [<-hx]
 clear hx
 by_cases h:256<=x
 ·have hi:∀ W:World,(Instr.index 9 (.string L8) (.int .u8 (x / 256))).run Tryz.prog W=.ok (.int .u8 (bitsOf (n / 256):Nat)) W:=fun W=>by
   have:=HA.out (n / 256) (by omega) W
   rwa [show ((n / 256:Nat):Int)=x / 256 by have:=HX.out;omega] at this
  have hb:=qcg (n / 256)
  have HL:Hid (len16 n=8+bitsOf (n / 256)):=by show _=_;unfold len16;rw [if_pos (by have:=HX.out;omega)]
  generalize bitsOf (n / 256)=m at hi hb HL
  go_wp2
  go_ret
  exact ⟨by rw [HL.out];simp,rfl⟩
 ·have hi:∀ W:World,(Instr.index 9 (.string L8) (.int .u8 x)).run Tryz.prog W=.ok (.int .u8 (bitsOf n:Nat)) W:=fun W=>by
   have:=HA.out n (by have:=HX.out;omega) W
   rwa [<-HX.out] at this
  have hb:=qcg n
  have HL:Hid (len16 n=bitsOf n):=by show _=_;unfold len16;rw [if_neg (by have:=HX.out;omega)]
  generalize bitsOf n=m at hi hb HL
  go_wp2
  go_ret
  exact ⟨by rw [HL.out];simp,rfl⟩
theorem qr3:((List.range 10000).all fun n=>decide (n<100) || (decide (len16 n * 78913 / 262144<20) && (len16 n * 78913 / 262144+(if 10 ^ (len16 n * 78913 / 262144)<=n then 1 else 0) == (if n<1000 then 3 else 4))))=true:=by kernel_rfl
theorem qgd (n:Nat) (w:World) (h1:100<=n) (hn:n<=9999) (hp:Pow w):Calls Tryz.prog 185 #[.int .u64 n] w fun e w'=>e=.returned (.int .i64 (if n<1000 then 3 else 4:Nat))/\w'=w:=by
 have H1:Hid (∀ W:World,Calls Tryz.prog 192 #[.int .u64 n] W fun e w'=>e=.returned (.int .i64 (len16 n:Nat))/\w'=W):=fun W=>qk5 n W hn
 have hl:len16 n<=64:=by
  unfold len16
  have:=qcg (n / 256)
  have:=qcg n
  split <;> omega
 have H2:Hid (∀ W:World,Calls Tryz.prog 191 #[.int .i64 (len16 n:Nat)] W fun e w'=>e=.returned (.int .i64 ((len16 n * 78913) / 262144:Nat))/\w'=W):=fun W=>qk3 (len16 n) W hl
 have hall:=List.all_eq_true.1 qr3 n (List.mem_range.2 (by omega))
 rw [decide_eq_false (by omega),Bool.false_or,Bool.and_eq_true,decide_eq_true_eq,beq_iff_eq] at hall
 have hc:=hp _ hall.1
 have HF:Hid (len16 n * 78913 / 262144+(if 10 ^ (len16 n * 78913 / 262144)<=n then 1 else 0)=(if n<1000 then 3 else 4)):=hall.2
 have hq:=hall.1
 obtain ⟨T,hT0⟩:∃ T,10 ^ (len16 n * 78913 / 262144)=T:=⟨_,rfl⟩
 have HT:Hid (10 ^ (len16 n * 78913 / 262144)=T):=hT0
 clear hT0
 rw [HT.out] at hc HF
 generalize len16 n * 78913 / 262144=q at H2 hc HF hq
 generalize (if n<1000 then 3 else 4:Nat)=R at HF ⊢
 generalize len16 n=m at H1 H2
 clear hall HT hp hl
 by_cases hT:T<=n
 ·have HF2:Hid (q+1=R):=by have:=HF.out;rwa [if_pos hT] at this
  have hT':(T:Int)<=(n:Int):=by omega
  clear HF hT
  go_enter Tryz.func185,Tryz.ntmps185
  go_wp2_with (first | (go_at_call 192;refine (H1.out _).mono ?_;rintro e w1 ⟨rfl,rfl⟩) | (go_at_call 191;refine (H2.out _).mono ?_;rintro e w1 ⟨rfl,rfl⟩) | (go_at_call 193;refine (qe0 _ _).mono ?_;rintro e w1 ⟨rfl,rfl⟩))
  go_ret
  exact ⟨by rw [<-HF2.out];simp,rfl⟩
 ·have HF2:Hid (q=R):=by have:=HF.out;rwa [if_neg hT] at this
  have hT':¬ (T:Int)<=(n:Int):=by omega
  clear HF hT
  go_enter Tryz.func185,Tryz.ntmps185
  go_wp2_with (first | (go_at_call 192;refine (H1.out _).mono ?_;rintro e w1 ⟨rfl,rfl⟩) | (go_at_call 191;refine (H2.out _).mono ?_;rintro e w1 ⟨rfl,rfl⟩) | (go_at_call 193;refine (qe0 _ _).mono ?_;rintro e w1 ⟨rfl,rfl⟩))
  go_ret
  exact ⟨by rw [<-HF2.out];simp,rfl⟩
theorem qmu:((List.range 10).all fun n=>part (by8 Lib.digits36) n (n+1) == dg 6 n [])=true:=by kernel_rfl
theorem qmv:((List.range 100).all fun n=>decide (n<10) || (part (by8 Lib.smalls) (n * 2) (n * 2+2) == dg 6 n []))=true:=by kernel_rfl
theorem qk6 (n:Nat) (w:World) (hn:n<100):Calls Tryz.prog 184 #[.int .i64 n] w fun e w'=>∃ t,e=.returned (.string t)/\by8 t=dg 6 n []/\w'=w:=by
 go_enter Tryz.func184,Tryz.ntmps184
 go_name_bytes_deep 45 SM hSM
 have eSM:SM=Lib.smalls:=by rw [<-hSM];decide +kernel
 subst eSM
 clear hSM
 go_name_bytes_deep 30 DG hDG
 have eDG:DG=Lib.digits36:=by rw [<-hDG];decide +kernel
 subst eDG
 clear hDG
 by_cases h:n<10
 ·have hsl:∀ w,(Instr.slice 9 (.string Lib.digits36) (some (.int .i64 (n:Int))) (some (.int .i64 ((n:Int)+1))) none).run Tryz.prog w=.ok (.string (Lib.digits36.extract n (n+1))) w:=fun w=>by
   rw [run_slice_string w 9 Lib.digits36 .i64 .i64 _ _ Tryz.underlying9 (by omega) (by omega) (by rw [Lib.digits36_size];omega),show ((n:Int)).toNat=n by omega,show ((n:Int)+1).toNat=n+1 by omega]
  have HF:Hid (by8 (Lib.digits36.extract n (n+1))=dg 6 n []):=by
   show _=_
   rw [z9]
   have:=List.all_eq_true.1 qmu n (List.mem_range.2 h)
   rwa [beq_iff_eq] at this
  generalize Lib.digits36.extract n (n+1)=t at hsl HF
  go_wp2
  go_ret
  exact ⟨t,rfl,HF.out,rfl⟩
 ·have hsl:∀ w,(Instr.slice 9 (.string Lib.smalls) (some (.int .i64 ((n:Int) * 2))) (some (.int .i64 ((n:Int) * 2+2))) none).run Tryz.prog w=.ok (.string (Lib.smalls.extract (n * 2) (n * 2+2))) w:=fun w=>by
   rw [run_slice_string w 9 Lib.smalls .i64 .i64 _ _ Tryz.underlying9 (by omega) (by omega) (by rw [Lib.smalls_size];omega),show ((n:Int) * 2).toNat=n * 2 by omega,show ((n:Int) * 2+2).toNat=n * 2+2 by omega]
  have HF:Hid (by8 (Lib.smalls.extract (n * 2) (n * 2+2))=dg 6 n []):=by
   show _=_
   rw [z9]
   have:=List.all_eq_true.1 qmv n (List.mem_range.2 hn)
   rw [decide_eq_false h,Bool.false_or] at this
   rwa [beq_iff_eq] at this
  generalize Lib.smalls.extract (n * 2) (n * 2+2)=t at hsl HF
  go_wp2
  go_ret
  exact ⟨t,rfl,HF.out,rfl⟩
def Digs (w:World) (ab:Nat) (l:List Int):Prop:=∀ j (hj:j<l.length),w.cell? ⟨ab,1+j,none⟩=some (.int .u8 l[j])
theorem qhg (k:Nat) (hk:k<100):((Lib.sm (k * 2)).toNat:Int)=48+k / 10/\((Lib.sm (k * 2+1)).toNat:Int)=48+k % 10:=by
 have all:((List.range 100).all fun k=>(((Lib.sm (k * 2)).toNat:Int) == 48+(k:Int) / 10) && (((Lib.sm (k * 2+1)).toNat:Int) == 48+(k:Int) % 10))=true:=by kernel_rfl
 have:=List.all_eq_true.1 all k (List.mem_range.2 hk)
 simpa using this
theorem qmw (x:Int) (ab:Nat) (w:World) (h1:1000<=x) (h2:x<=9999) (hc:∀ j,j<24->∃ g:Int,w.cell? ⟨ab,j,none⟩=some (.int .u8 g)) (hf:∀ j,w.frozen? ⟨ab,j,none⟩=false) :
  Calls Tryz.prog 186 #[.slice (some ⟨ab,1,none⟩) 4 23,.int .u64 x] w fun e w'=>e=.returned (.tuple #[])/\Digs w' ab [48+x / 1000,48+x / 100 % 10,48+x / 10 % 10,48+x % 10]/\Below ab w w':=by
 obtain ⟨g1,c1⟩:=hc 1 (by omega)
 obtain ⟨g2,c2⟩:=hc 2 (by omega)
 obtain ⟨g3,c3⟩:=hc 3 (by omega)
 obtain ⟨g4,c4⟩:=hc 4 (by omega)
 clear hc
 have mx:=qay
 go_enter Tryz.func186,Tryz.ntmps186
 go_name_bytes SM hSM
 have eSM:SM=Lib.smalls:=by rw [<-hSM];decide +kernel
 subst eSM
 clear hSM
 go_wp2
 go_loop [1,4] (fun u v=>u=.int .u64 x/\v=.int .i64 4) (fun _ _=>0)
 case atStart=>exact ⟨rfl,rfl⟩
 case round =>
  obtain ⟨rfl,rfl⟩:=hrel
  go_upto_region 17 with fail
  go_name_slot 15 x0 hx0
  go_name_slot 14 x1 hx1
  have hxa:∃ k:Nat,k<100/\x0=((k * 2:Nat):Int)/\(k:Int)=x % 100:=⟨(x % 100).toNat,by omega,by omega,by omega⟩
  have hxb:∃ k:Nat,k<100/\x1=((k * 2:Nat):Int)/\(k:Int)=x / 100:=⟨(x / 100).toNat,by omega,by omega,by omega⟩
  obtain ⟨k0,hk0,he0,hv0⟩:=hxa
  obtain ⟨k1,hk1,he1,hv1⟩:=hxb
  have hX0a:∀ w,(Instr.index 9 (.string Lib.smalls) (.int .u32 (x0+1))).run Tryz.prog w=.ok (.int .u8 ((Lib.sm (k0 * 2+1)).toNat:Int)) w:=Lib.idx_smalls 9 Tryz.underlying9 .u32 _ _ (by omega) (by omega)
  have hX0b:∀ w,(Instr.index 9 (.string Lib.smalls) (.int .u32 x0)).run Tryz.prog w=.ok (.int .u8 ((Lib.sm (k0 * 2)).toNat:Int)) w:=Lib.idx_smalls 9 Tryz.underlying9 .u32 _ _ (by omega) (by omega)
  have hX1a:∀ w,(Instr.index 9 (.string Lib.smalls) (.int .u32 (x1+1))).run Tryz.prog w=.ok (.int .u8 ((Lib.sm (k1 * 2+1)).toNat:Int)) w:=Lib.idx_smalls 9 Tryz.underlying9 .u32 _ _ (by omega) (by omega)
  have hX1b:∀ w,(Instr.index 9 (.string Lib.smalls) (.int .u32 x1)).run Tryz.prog w=.ok (.int .u8 ((Lib.sm (k1 * 2)).toNat:Int)) w:=Lib.idx_smalls 9 Tryz.underlying9 .u32 _ _ (by omega) (by omega)
  have hb0:0<=x0/\x0<=198:=by omega
  have hb1:0<=x1/\x1<=198:=by omega
  obtain ⟨e1,e2⟩:=qhg k0 hk0
  obtain ⟨e3,e4⟩:=qhg k1 hk1
  have HE:Hid (((Lib.sm (k1 * 2)).toNat:Int)=48+x / 1000/\((Lib.sm (k1 * 2+1)).toNat:Int)=48+x / 100 % 10/\((Lib.sm (k0 * 2)).toNat:Int)=48+x / 10 % 10/\((Lib.sm (k0 * 2+1)).toNat:Int)=48+x % 10):=by
   refine ⟨?_,?_,?_,?_⟩
   ·rw [e3];omega
   ·rw [e4];omega
   ·rw [e1];omega
   ·rw [e2];omega
  generalize ((Lib.sm (k0 * 2)).toNat:Int)=y0 at hX0b HE
  generalize ((Lib.sm (k0 * 2+1)).toNat:Int)=y1 at hX0a HE
  generalize ((Lib.sm (k1 * 2)).toNat:Int)=y2 at hX1b HE
  generalize ((Lib.sm (k1 * 2+1)).toNat:Int)=y3 at hX1a HE
  clear e1 e2 e3 e4 hx0 hx1 he0 he1 hv0 hv1 hk0 hk1
  go_region
  go_wp2
  go_region
  go_wp2
  go_end0
  refine ⟨rfl,?_,(((((Below.refl ab w).setCell (p:=⟨ab,4,none⟩) (Nat.le_refl _) _).setCell (p:=⟨ab,3,none⟩) (Nat.le_refl _) _).setCell (p:=⟨ab,2,none⟩) (Nat.le_refl _) _).setCell (p:=⟨ab,1,none⟩) (Nat.le_refl _) _).drew.drew⟩
  rw [<-HE.out.1,<-HE.out.2.1,<-HE.out.2.2.1,<-HE.out.2.2.2]
  intro j hj
  match j,hj with
  | 0,_=>simp [go_sem,c1]
  | 1,_=>simp [go_sem,c2]
  | 2,_=>simp [go_sem,c3]
  | 3,_=>simp [go_sem,c4]
theorem qmx (x:Int) (ab:Nat) (w:World) (h1:100<=x) (h2:x<=999) (hc:∀ j,j<24->∃ g:Int,w.cell? ⟨ab,j,none⟩=some (.int .u8 g)) (hf:∀ j,w.frozen? ⟨ab,j,none⟩=false) :
  Calls Tryz.prog 186 #[.slice (some ⟨ab,1,none⟩) 3 23,.int .u64 x] w fun e w'=>e=.returned (.tuple #[])/\Digs w' ab [48+x / 100,48+x / 10 % 10,48+x % 10]/\Below ab w w':=by
 obtain ⟨g1,c1⟩:=hc 1 (by omega)
 obtain ⟨g2,c2⟩:=hc 2 (by omega)
 obtain ⟨g3,c3⟩:=hc 3 (by omega)
 clear hc
 have mx:=qay
 go_enter Tryz.func186,Tryz.ntmps186
 go_name_bytes SM hSM
 have eSM:SM=Lib.smalls:=by rw [<-hSM];decide +kernel
 subst eSM
 clear hSM
 go_wp2
 go_loop [1,4] (fun u v=>u=.int .u64 x/\v=.int .i64 3) (fun _ _=>0)
 case atStart=>exact ⟨rfl,rfl⟩
 case round =>
  obtain ⟨rfl,rfl⟩:=hrel
  go_upto_region 23 with fail
  go_name_slot 16 x0 hx0
  have hxa:∃ k:Nat,k<100/\x0=((k * 2:Nat):Int)/\(k:Int)=x % 100:=⟨(x % 100).toNat,by omega,by omega,by omega⟩
  obtain ⟨k0,hk0,he0,hv0⟩:=hxa
  have hX0a:∀ w,(Instr.index 9 (.string Lib.smalls) (.int .u32 (x0+1))).run Tryz.prog w=.ok (.int .u8 ((Lib.sm (k0 * 2+1)).toNat:Int)) w:=Lib.idx_smalls 9 Tryz.underlying9 .u32 _ _ (by omega) (by omega)
  have hX0b:∀ w,(Instr.index 9 (.string Lib.smalls) (.int .u32 x0)).run Tryz.prog w=.ok (.int .u8 ((Lib.sm (k0 * 2)).toNat:Int)) w:=Lib.idx_smalls 9 Tryz.underlying9 .u32 _ _ (by omega) (by omega)
  have hb0:0<=x0/\x0<=198:=by omega
  obtain ⟨e1,e2⟩:=qhg k0 hk0
  have HE:Hid (((Lib.sm (k0 * 2)).toNat:Int)=48+x / 10 % 10/\((Lib.sm (k0 * 2+1)).toNat:Int)=48+x % 10):=by
   refine ⟨?_,?_⟩
   ·rw [e1];omega
   ·rw [e2];omega
  generalize ((Lib.sm (k0 * 2)).toNat:Int)=y0 at hX0b HE
  generalize ((Lib.sm (k0 * 2+1)).toNat:Int)=y1 at hX0a HE
  clear e1 e2 hx0 he0 hv0 hk0
  go_region
  go_wp2
  go_end0
  refine ⟨rfl,?_,?_⟩
  ·rw [<-HE.out.1,<-HE.out.2]
   intro j hj
   match j,hj with
   | 0,_=>simp [go_sem,c1]
   | 1,_=>simp [go_sem,c2]
   | 2,_=>simp [go_sem,c3]
  ·exact ((((Below.refl ab w).setCell (p:=⟨ab,3,none⟩) (Nat.le_refl _) _).setCell (p:=⟨ab,2,none⟩) (Nat.le_refl _) _).setCell (p:=⟨ab,1,none⟩) (Nat.le_refl _) _).drew
theorem qr4:((List.range 10000).all fun n=>decide (n<100) || (dg 6 n [] == (if n<1000 then [UInt8.ofNat (48+n / 100),UInt8.ofNat (48+n / 10 % 10),UInt8.ofNat (48+n % 10)] else [UInt8.ofNat (48+n / 1000),UInt8.ofNat (48+n / 100 % 10),UInt8.ofNat (48+n / 10 % 10),UInt8.ofNat (48+n % 10)])))=true:=by kernel_rfl
theorem qge (n:Nat) (w:World) (hn:n<=9999) (hp:Pow w):Calls Tryz.prog 175 #[.int .i64 n,.int .i64 10] w fun e w'=>∃ t,e=.returned (.string t)/\by8 t=dg 6 n []/\Below w.heap.size w w':=by
 by_cases hs:n<100
 ·have HC:Hid (∀ W:World,Calls Tryz.prog 184 #[.int .i64 n] W fun e w'=>∃ t,e=.returned (.string t)/\by8 t=dg 6 n []/\w'=W):=fun W=>qk6 n W hs
  have hs':(n:Int)<100:=by omega
  go_enter Tryz.func175,Tryz.ntmps175
  go_wp2_with fail
  refine (HC.out _).mono ?_
  rintro e w1 ⟨t,rfl,ht,rfl⟩
  have HT:Hid (by8 t=dg 6 n []):=ht
  clear ht HC
  go_wp2_with fail
  go_ret
  exact ⟨t,rfl,HT.out,Below.refl _ _⟩
 ·have HD:=List.all_eq_true.1 qr4 n (List.mem_range.2 (by omega))
  rw [decide_eq_false hs,Bool.false_or,beq_iff_eq] at HD
  have H1:Hid (∀ W:World,Pow W->Calls Tryz.prog 185 #[.int .u64 n] W fun e w'=>e=.returned (.int .i64 (if n<1000 then 3 else 4:Nat))/\w'=W):=fun W hW=>qgd n W (by omega) hn hW
  have HP:Hid (Pow w):=hp
  have HDH:Hid (dg 6 n []=(if n<1000 then [UInt8.ofNat (48+n / 100),UInt8.ofNat (48+n / 10 % 10),UInt8.ofNat (48+n % 10)] else [UInt8.ofNat (48+n / 1000),UInt8.ofNat (48+n / 100 % 10),UInt8.ofNat (48+n / 10 % 10),UInt8.ofNat (48+n % 10)])):=HD
  clear HD hp
  have hlo:¬ (n:Int)<100:=by omega
  obtain ⟨Z,hZ⟩:∃ Z:Array Value,Z=#[.int .u8 0,.int .u8 0,.int .u8 0,.int .u8 0,.int .u8 0,.int .u8 0,.int .u8 0,.int .u8 0,.int .u8 0,.int .u8 0,.int .u8 0,.int .u8 0,.int .u8 0,.int .u8 0,.int .u8 0,.int .u8 0,.int .u8 0,.int .u8 0,.int .u8 0,.int .u8 0,.int .u8 0,.int .u8 0,.int .u8 0,.int .u8 0]:=⟨_,rfl⟩
  have HZ:Hid (∀ j,j<24->∃ g:Int,(w.alloc (.cells Z 201)).cell? ⟨w.heap.size,j,none⟩=some (.int .u8 g)):=fun j hj=>by
   refine ⟨0,?_⟩
   rw [World.cell?_alloc_mark]
   have e:Z=(List.replicate 24 (Value.int .u8 0)).toArray:=by rw [hZ];rfl
   rw [e,List.getElem?_toArray,List.getElem?_replicate,if_pos hj]
  have HF:Hid (∀ j,(w.alloc (.cells Z 201)).frozen? ⟨w.heap.size,j,none⟩=false):=fun j=>qi (heap_alloc_new _ _) j
  have HB:Hid (Below w.heap.size w (w.alloc (.cells Z 201))/\Pow (w.alloc (.cells Z 201))):=⟨qb _ _,HP.out.below (qb _ _)⟩
  go_enter Tryz.func175,Tryz.ntmps175
  go_wp2_with fail
  rw [<-hZ]
  generalize w.alloc (.cells Z 201)=w1 at HZ HF HB ⊢
  obtain ⟨ab,HAB⟩:∃ ab,Hid (ab=w.heap.size):=⟨_,rfl⟩
  rw [<-HAB.out] at HZ HF ⊢
  refine (H1.out _ HB.out.2).mono ?_
  rintro e w2 ⟨rfl,rfl⟩
  clear H1 HP hZ
  by_cases hk:n<1000
  ·rw [if_pos hk]
   have HD2:Hid (dg 6 n []=[UInt8.ofNat (48+n / 100),UInt8.ofNat (48+n / 10 % 10),UInt8.ofNat (48+n % 10)]):=by have:=HDH.out;rwa [if_pos hk] at this
   have H3:Hid (Calls Tryz.prog 186 #[.slice (some ⟨ab,1,none⟩) 3 23,.int .u64 n] w2 fun e w'=>e=.returned (.tuple #[])/\Digs w' ab [48+(n:Int) / 100,48+(n:Int) / 10 % 10,48+(n:Int) % 10]/\Below ab w2 w'):=qmx n ab w2 (by omega) (by omega) HZ.out HF.out
   clear HDH HZ HF
   go_wp2_with fail
   refine H3.out.mono ?_
   rintro e w3 ⟨rfl,hD,hB⟩
   have hcv:(convert 56 9 (.slice (some ⟨ab,1,none⟩) 3 23)).run Tryz.prog w3=.ok (.string (strOfNums [48+(n:Int) / 100,48+(n:Int) / 10 % 10,48+(n:Int) % 10])) w3:=run_convert_bytes_arg w3 56 5 Tryz.underlying56 Tryz.underlying5 ab 1 3 23 _ rfl (fun i hi=>by
    have:=hD i hi
    rw [this,List.getD_eq_getElem?_getD,List.getElem?_eq_getElem (by exact hi)]
    rfl) 9 Tryz.underlying9
   have HT:Hid (by8 (strOfNums [48+(n:Int) / 100,48+(n:Int) / 10 % 10,48+(n:Int) % 10])=dg 6 n []):=by
    show _=_
    rw [HD2.out]
    have h:by8 (strOfNums [48+(n:Int) / 100,48+(n:Int) / 10 % 10,48+(n:Int) % 10])=[UInt8.ofNat (48+(n:Int) / 100).toNat,UInt8.ofNat (48+(n:Int) / 10 % 10).toNat,UInt8.ofNat (48+(n:Int) % 10).toNat]:=rfl
    rw [h]
    simp only [List.cons.injEq,and_true]
    refine ⟨?_,?_,?_⟩
    all_goals congr 1
   have HE:Hid (Below w.heap.size w w3):=(HB.out.1).trans (by rw [<-HAB.out];exact hB)
   generalize strOfNums [48+(n:Int) / 100,48+(n:Int) / 10 % 10,48+(n:Int) % 10]=t at hcv HT
   clear hD hB H3 HD2
   go_wp2_with fail
   go_ret
   exact ⟨t,rfl,HT.out,HE.out⟩
  ·rw [if_neg hk]
   have HD2:Hid (dg 6 n []=[UInt8.ofNat (48+n / 1000),UInt8.ofNat (48+n / 100 % 10),UInt8.ofNat (48+n / 10 % 10),UInt8.ofNat (48+n % 10)]):=by have:=HDH.out;rwa [if_neg hk] at this
   have H3:Hid (Calls Tryz.prog 186 #[.slice (some ⟨ab,1,none⟩) 4 23,.int .u64 n] w2 fun e w'=>e=.returned (.tuple #[])/\Digs w' ab [48+(n:Int) / 1000,48+(n:Int) / 100 % 10,48+(n:Int) / 10 % 10,48+(n:Int) % 10]/\Below ab w2 w'):=qmw n ab w2 (by omega) (by omega) HZ.out HF.out
   clear HDH HZ HF
   go_wp2_with fail
   refine H3.out.mono ?_
   rintro e w3 ⟨rfl,hD,hB⟩
   have hcv:(convert 56 9 (.slice (some ⟨ab,1,none⟩) 4 23)).run Tryz.prog w3=.ok (.string (strOfNums [48+(n:Int) / 1000,48+(n:Int) / 100 % 10,48+(n:Int) / 10 % 10,48+(n:Int) % 10])) w3:=run_convert_bytes_arg w3 56 5 Tryz.underlying56 Tryz.underlying5 ab 1 4 23 _ rfl (fun i hi=>by
    have:=hD i hi
    rw [this,List.getD_eq_getElem?_getD,List.getElem?_eq_getElem (by exact hi)]
    rfl) 9 Tryz.underlying9
   have HT:Hid (by8 (strOfNums [48+(n:Int) / 1000,48+(n:Int) / 100 % 10,48+(n:Int) / 10 % 10,48+(n:Int) % 10])=dg 6 n []):=by
    show _=_
    rw [HD2.out]
    have h:by8 (strOfNums [48+(n:Int) / 1000,48+(n:Int) / 100 % 10,48+(n:Int) / 10 % 10,48+(n:Int) % 10])=[UInt8.ofNat (48+(n:Int) / 1000).toNat,UInt8.ofNat (48+(n:Int) / 100 % 10).toNat,UInt8.ofNat (48+(n:Int) / 10 % 10).toNat,UInt8.ofNat (48+(n:Int) % 10).toNat]:=rfl
    rw [h]
    simp only [List.cons.injEq,and_true]
    refine ⟨?_,?_,?_,?_⟩
    all_goals congr 1
   have HE:Hid (Below w.heap.size w w3):=(HB.out.1).trans (by rw [<-HAB.out];exact hB)
   generalize strOfNums [48+(n:Int) / 1000,48+(n:Int) / 100 % 10,48+(n:Int) / 10 % 10,48+(n:Int) % 10]=t at hcv HT
   clear hD hB H3 HD2
   go_wp2_with fail
   go_ret
   exact ⟨t,rfl,HT.out,HE.out⟩
theorem qmy (n:Nat) (w:World) (hn:n<=9999) (hp:Pow w):Calls Tryz.prog 147 #[.int .i64 n] w fun e w'=>∃ t,e=.returned (.string t)/\by8 t=dg 6 n []/\Below w.heap.size w w':=by
 have H1:Hid (Calls Tryz.prog 175 #[.int .i64 n,.int .i64 10] w fun e w'=>∃ t,e=.returned (.string t)/\by8 t=dg 6 n []/\Below w.heap.size w w'):=qge n w hn hp
 have H2:Hid (Calls Tryz.prog 165 #[.int .i64 n] w fun e w'=>∃ t,e=.returned (.string t)/\by8 t=dg 6 n []/\Below w.heap.size w w'):=by
  show Calls _ _ _ _ _
  go_enter Tryz.func165,Tryz.ntmps165
  go_wp2_with fail
  refine H1.out.mono ?_
  rintro e w1 ⟨t,rfl,ht,hb⟩
  have HE:Hid (by8 t=dg 6 n []/\Below w.heap.size w w1):=⟨ht,hb⟩
  clear ht hb
  go_wp2_with fail
  go_ret
  exact ⟨t,rfl,HE.out⟩
 go_enter Tryz.func147,Tryz.ntmps147
 go_wp2_with fail
 refine H2.out.mono ?_
 rintro e w1 ⟨t,rfl,ht,hb⟩
 have HE:Hid (by8 t=dg 6 n []/\Below w.heap.size w w1):=⟨ht,hb⟩
 clear ht hb
 go_wp2_with fail
 go_ret
 exact ⟨t,rfl,HE.out⟩
theorem Tryz.info9:(Tryz.prog.info? 9).map (fun i=>(i.zero,i.size,i.bytes))=some (some (.string ⟨#[]⟩),1,16):=by kernel_rfl
def tx (L:List (List (List UInt8))):List UInt8:=L.flatMap qbn
def OkL (L:List (List (List UInt8))):Prop:=∀ ws∈L,ws.length<=1000/\∀ x∈ws,x.length<=100
theorem qeb (a b:List (List (List UInt8))):tx (a++b)=tx a++tx b:=by unfold tx;rw [List.flatMap_append]
theorem qr5 (x:List (List UInt8)):tx [x]=qbn x:=by unfold tx;simp
theorem qjy {ws:List (List UInt8)} (h:ws.length<=1000) (h2:∀ x∈ws,x.length<=100):(qbn ws).length<=102000:=by
 unfold qbn
 cases ws with
 | nil=>simp [jn]
 | cons x r =>
  have h3:=qcf r (fun y hy=>h2 y (List.mem_cons_of_mem _ hy))
  have h4:=h2 x List.mem_cons_self
  unfold jn
  rw [List.length_append,List.length_append]
  rw [List.length_cons] at h
  simp only [List.length_cons,List.length_nil]
  omega
theorem qh1 {L:List (List (List UInt8))} (h:OkL L):(tx L).length<=102000 * L.length:=by
 induction L with
 | nil=>simp [tx]
 | cons x r ih =>
  have h1:=ih (fun y hy=>h y (List.mem_cons_of_mem _ hy))
  have h2:=h x List.mem_cons_self
  have h3:=qjy h2.1 h2.2
  have e:tx (x :: r)=qbn x++tx r:=rfl
  rw [e,List.length_append,List.length_cons]
  omega
theorem OkL.snoc {L:List (List (List UInt8))} {ws:List (List UInt8)} (h:OkL L) (h1:ws.length<=1000) (h2:∀ x∈ws,x.length<=100):OkL (L++[ws]):=fun y hy=>by
 rcases List.mem_append.1 hy with h3 | h3
 ·exact h y h3
 ·rw [List.mem_singleton] at h3;subst h3;exact ⟨h1,h2⟩
theorem qch (l:List ByteArray) (ao:Option Addr) (n cap b:Nat) (v:Value) (L:List (List (List UInt8))) (w:World) (hr:Row w 1 ao n cap (strC l)) (hn:n=l.length) (h1:1<=n) (hnn:n<=1000) (hs:∀ x∈l,x.size<=100) (hB:Bld w b v (tx L)) (hL:OkL L) (hl:L.length<=400) :
  Calls Tryz.prog 146 #[.pointer (some ⟨b,0,none⟩),.slice ao n cap] w fun e w'=>∃ v',e=.returned (.tuple #[])/\Bld w' b v' (tx (L++[l.map by8]))/\OkL (L++[l.map by8])/\za w b v w' v':=by
 refine (qiv l ao n cap b v (tx L) w hr hn h1 hnn hs hB (by have:=qh1 hL;omega)).mono ?_
 rintro e w' ⟨v',rfl,h2,h3⟩
 refine ⟨v',rfl,by rw [qeb,qr5];exact h2,hL.snoc (by rw [List.length_map,<-hn];exact hnn) (fun x hx=>?_),h3⟩
 rw [List.mem_map] at hx
 obtain ⟨y,hy,rfl⟩:=hx
 rw [qy]
 exact hs y hy
theorem qk7 (a b:List ByteArray):strC (a++b)=strC a++strC b:=by unfold strC;rw [List.map_append]
theorem yq (a:List ByteArray):(strC a).length=a.length:=by unfold strC;rw [List.length_map]
theorem qpi (l:List ByteArray):∀ u∈strC l,u.oneCell'=true:=by
 intro u hu
 unfold strC at hu
 rw [List.mem_map] at hu
 obtain ⟨s,-,rfl⟩:=hu
 rfl
def OwnS (w:World) (base:Nat) (v:Value) (l:List ByteArray):Prop:=w.ownsRow base 9 1 v l.length (strC l)
theorem OwnS.addRow {w:World} {base:Nat} {v:Value} {l ys:List ByteArray} {xa:Option Addr} {m xc:Nat} (h:OwnS w base v l) (hr:Row w 1 xa m xc (strC ys)) (hb:base<=w.heap.size) (hn:l.length+ys.length<=100000) (hm:m=ys.length) :
  ∃ ao n c w',(Builtin.append_ #[28,28] 28 #[v,.slice xa m xc]).run Tryz.prog w=.ok (.slice ao n c) w'/\n=(l++ys).length/\OwnS w' base (.slice ao n c) (l++ys)/\Below base w w':=by
 obtain ⟨i0,hi,hz0,hz1,hz2⟩:=info_parts Tryz.info9
 rcases hr.lies with ⟨rfl,h0,h0c⟩ | ⟨b,o,rfl,hc⟩
 ·have hys:ys=[]:=List.eq_nil_of_length_eq_zero (by omega)
  subst hys h0 h0c
  have hrun:=run_append_owned_none (P:=Tryz.prog) (w:=w) base 28 28 9 i0 1 Tryz.underlying28 hi v l.length (strC l) h
  obtain ⟨ao,c,rfl,-⟩:=zh h
  exact ⟨ao,l.length,c,w,hrun,by simp,by rw [List.append_nil];exact h,Below.refl _ _⟩
 ·subst hm
  obtain ⟨v',w',hr',h2,h3,-⟩:=run_append_own (P:=Tryz.prog) w base 28 28 9 i0 _ 1 16 Tryz.underlying28 hi hz0 hz1 hz2 rfl (by decide) v l.length (strC l) h ⟨b,o,none⟩ ys.length xc (strC ys) (by rw [yq,Nat.mul_one])
   (fun j u hu=>by rw [Addr.add_lit];exact hc j u hu) (qpi ys) (by unfold maxLen;omega) (by omega) hb
  have h2':OwnS w' base v' (l++ys):=by unfold OwnS;rw [qk7,List.length_append];exact h2
  obtain ⟨ao,c,rfl,-⟩:=zh h2'
  exact ⟨ao,_,c,w',hr',rfl,h2',(Below.refl base w).grown h3 (by omega) (fun g hg=>(World.ownsRow.lt h g hg).1)⟩
theorem OwnS.row {w:World} {base n:Nat} {ao:Option Addr} {c:Nat} {l:List ByteArray} (h:OwnS w base (.slice ao n c) l) (hn:n=l.length):Row w 1 ao n c (strC l):=by subst hn;exact Row.of_own h
theorem OwnS.below {w w':World} {base:Nat} {v:Value} {l:List ByteArray} (h:OwnS w base v l) (hb:Below w.heap.size w w'):OwnS w' base v l :=
 qh h (fun i hi=>hb.block i (World.ownsRow.lt h i hi).2)
theorem vx (w:World) (l:List ByteArray) (h:l.length<=1000):Row (w.alloc (.cells (strC l).toArray 9)) 1 (some ⟨w.heap.size,0,none⟩) l.length l.length (strC l):=by
 refine ⟨by rw [yq,Nat.mul_one],Nat.le_refl _,by unfold maxLen;omega,.inr ⟨_,_,rfl,fun j u hu=>?_⟩⟩
 rw [World.cell?_alloc_mark,Nat.zero_add,List.getElem?_toArray]
 exact hu
theorem qhh (w:World) (l:List ByteArray) (h:l.length<=1000):OwnS (w.alloc (.cells (strC l).toArray 9)) w.heap.size (.slice (some ⟨w.heap.size,0,none⟩) l.length l.length) l:=by
 refine ⟨by rw [yq,Nat.mul_one],.inr ⟨w.heap.size,l.length,(strC l).toArray,rfl,Nat.le_refl _,heap_alloc_new _ _,Nat.le_refl _,by unfold maxLen;omega,by simp [yq],?_⟩⟩
 rw [List.toList_toArray,List.take_of_length_le (by rw [yq];omega)]
def keyA (a:Int):ByteArray:=if a=1 then ⟨#[37,108,101,102,116]⟩ else if a=2 then ⟨#[37,114,105,103,104,116]⟩ else ⟨#[37,110,111,110,97,115,115,111,99]⟩
theorem qn0 (a:Int):(keyA a).size<=100:=by
 unfold keyA
 split
 ·exact (by decide:(⟨#[37,108,101,102,116]⟩:ByteArray).size<=100)
 ·split
  ·exact (by decide:(⟨#[37,114,105,103,104,116]⟩:ByteArray).size<=100)
  ·exact (by decide:(⟨#[37,110,111,110,97,115,115,111,99]⟩:ByteArray).size<=100)
theorem qhi (a:Int) (w:World):Calls Tryz.prog 172 #[.int .i64 a] w fun e w'=>e=.returned (.string (keyA a))/\w'=w:=by
 by_cases h1:a=1
 ·subst h1
  go_enter Tryz.func172,Tryz.ntmps172
  go_wp2
  go_ret
  exact ⟨rfl,rfl⟩
 ·by_cases h2:a=2
  ·subst h2
   go_enter Tryz.func172,Tryz.ntmps172
   go_wp2
   go_ret
   exact ⟨rfl,rfl⟩
  ·have e1:(a == 1)=false:=by simpa using h1
   have e2:(a == 2)=false:=by simpa using h2
   have HK:Hid (keyA a=⟨#[37,110,111,110,97,115,115,111,99]⟩):=by show _=_;unfold keyA;rw [if_neg h1,if_neg h2]
   go_enter Tryz.func172,Tryz.ntmps172
   go_wp2
   go_ret
   exact ⟨by rw [HK.out];rfl,rfl⟩
def zy (ts:List Tk) (k:Int):List ByteArray:=(ts.filter fun t=>t.l == k).map (·.n)
theorem qjz (ts:List Tk) (t:Tk) (k:Int):zy (ts++[t]) k=zy ts k++(if t.l == k then [t.n] else []):=by
 unfold zy
 rw [List.filter_append,List.map_append]
 congr 1
 cases h:(t.l == k) <;> simp [h]
theorem qcx (ts:List Tk) (k:Int):(zy ts k).length<=ts.length:=by
 unfold zy
 rw [List.length_map]
 exact List.length_filter_le _ _
theorem qgf (ts:List Tk) (ao:Option Addr) (n cap:Nat) (k a:Int) (w:World) (hr:Row w 3 ao n cap (tokC ts)) (hn:n=ts.length) (hnn:n<=100) :
  Calls Tryz.prog 161 #[.slice ao n cap,.int .i64 k,.int .i64 a] w fun e w'=>∃ xa m xc,e=.returned (.slice xa m xc)/\m=(keyA a :: zy ts k).length/\Row w' 1 xa m xc (strC (keyA a :: zy ts k))/\Below w.heap.size w w':=by
 have HN:Hid (n=ts.length):=hn
 have HR:Hid (Row w 3 ao n cap (tokC ts)):=hr
 have hle:=hr.le
 have hmx:cap<=9223372036854775807:=by have:=hr.max;unfold maxLen at this;omega
 have HK:Hid (∀ W:World,Calls Tryz.prog 172 #[.int .i64 a] W fun e w'=>e=.returned (.string (keyA a))/\w'=W):=fun W=>qhi a W
 have HO:Hid (OwnS (w.alloc (.cells #[.string (keyA a)] 9)) w.heap.size (.slice (some ⟨w.heap.size,0,none⟩) 1 1) [keyA a]/\Below w.heap.size w (w.alloc (.cells #[.string (keyA a)] 9))):=⟨qhh w [keyA a] (by simp),qb _ _⟩
 generalize keyA a=ka at HK HO ⊢
 clear hr hn
 go_enter Tryz.func161,Tryz.ntmps161
 go_wp2_with fail
 refine (HK.out _).mono ?_
 rintro e w9 ⟨rfl,hww⟩
 subst w9
 go_upto_region 2 with fail
 generalize hw1:w.alloc (.cells #[.string ka] 9)=w1 at HO ⊢
 clear hw1
 go_wp2
 go_loopg [7,15] n (fun kx s7 s15 wr=>∃ (i:Nat) (ml:Option Addr × Nat × Nat),s7=.slice ml.1 ml.2.1 ml.2.2/\s15=.int .i64 i/\i<=n/\n - i<=kx/\Hid (∃ l:List ByteArray,l=ka :: zy (ts.take i) k/\ml.2.1=l.length/\OwnS wr w.heap.size (.slice ml.1 ml.2.1 ml.2.2) l/\Below w.heap.size w wr))
 case atStart=>exact ⟨0,(some ⟨w.heap.size,0,none⟩,1,1),rfl,rfl,Nat.zero_le _,by omega,(⟨[ka],rfl,rfl,HO.out.1,HO.out.2⟩:∃ l:List ByteArray,l=ka :: zy (ts.take 0) k/\1=l.length/\OwnS w1 w.heap.size (.slice (some ⟨w.heap.size,0,none⟩) 1 1) l/\Below w.heap.size w w1)⟩
 case round =>
  obtain ⟨i,⟨la,ln,lc⟩,rfl,rfl,hi,hg,J⟩:=hrel
  simp only at J
  obtain ⟨l,hl,hln,hown,hbel⟩:=J.out
  have HL:Hid (l=ka :: zy (ts.take i) k/\ln=l.length/\OwnS wr w.heap.size (.slice la ln lc) l/\Below w.heap.size w wr):=⟨hl,hln,hown,hbel⟩
  have hll:l.length<=101:=by
   rw [hl,List.length_cons]
   have:=qcx (ts.take i) k
   rw [List.length_take,<-HN.out] at this
   omega
  clear J HO
  by_cases hlt:i<n
  ·obtain ⟨t,ht⟩:∃ t,ts[i]?=some t:=⟨ts[i]'(by rw [<-HN.out];exact hlt),List.getElem?_eq_getElem _⟩
   obtain ⟨b,o,rfl,c0,c1,c2⟩:=ja (HR.out.below hbel) ht
   have HT:Hid (zy (ts.take (i+1)) k=zy (ts.take i) k++(if t.l == k then [t.n] else [])):=by show _=_;rw [zn ht,qjz]
   obtain ⟨tn,tl,ta⟩:=t
   simp only at c0 c1 c2
   clear ht
   clear hl hln
   go_upto_region 5 with fail
   have HQ:Hid (OwnS (wr.alloc (.cells #[.string tn,.int .i64 tl,.int .i64 ta] 58)) w.heap.size (.slice la ln lc) l/\Below w.heap.size w (wr.alloc (.cells #[.string tn,.int .i64 tl,.int .i64 ta] 58))):=⟨hown.below (qb _ _),qd hbel (qb _ _)⟩
   have d0:(wr.alloc (.cells #[.string tn,.int .i64 tl,.int .i64 ta] 58)).cell? ⟨wr.heap.size,0,none⟩=some (.string tn):=by rw [World.cell?_alloc_mark];rfl
   have d1:(wr.alloc (.cells #[.string tn,.int .i64 tl,.int .i64 ta] 58)).cell? ⟨wr.heap.size,1,none⟩=some (.int .i64 tl):=by rw [World.cell?_alloc_mark];rfl
   generalize wr.alloc (.cells #[.string tn,.int .i64 tl,.int .i64 ta] 58)=wq at HQ d0 d1 ⊢
   generalize wr.heap.size=tb at d0 d1 ⊢
   clear c0 c1 c2 hown hbel
   by_cases htl:tl=k
   ·have e1:(tl == k)=true:=by simpa using htl
    have hA:=(HQ.out.1.below (qb wq (.cells #[.string tn] 9))).addRow (vx wq [tn] (by simp)) (by have:=HQ.out.2.size;simp;omega) (by simp;omega) rfl
    obtain ⟨a2,n2,c2,w2,hr,hn2,ho2,hb2⟩:=hA
    have hr':(Builtin.append_ #[28,28] 28 #[.slice la ln lc,.slice (some ⟨wq.heap.size,0,none⟩) 1 1]).run Tryz.prog (wq.alloc (.cells #[.string tn] 9))=.ok (.slice a2 n2 c2) w2:=hr
    have HF:Hid (∃ l:List ByteArray,l=ka :: zy (ts.take (i+1)) k/\n2=l.length/\OwnS w2 w.heap.size (.slice a2 n2 c2) l/\Below w.heap.size w w2):=by
     refine ⟨l++[tn],?_,hn2,ho2,?_⟩
     ·have e:zy (ts.take (i+1)) k=zy (ts.take i) k++[tn]:=by rw [HT.out];simp [e1]
      rw [e,HL.out.1];rfl
     ·have h1:Below w.heap.size w (wq.alloc (.cells #[.string tn] 9)):=qd HQ.out.2 (qb _ _)
      exact h1.trans hb2
    clear hr hn2 ho2 hb2 HT HL htl
    go_wp2_with (at_builtin;refine Lib.wpList_append_run _ rfl _ _ _ _ rfl _ _ rfl rfl _ _ hr' ?_)
    go_roundg (n - (i+1))
    case measure=>omega
    case rel=>exact ⟨i+1,(a2,n2,c2),rfl,by simp,by omega,Nat.le_refl _,HF⟩
   ·have e1:(tl == k)=false:=by simpa using htl
    have HF:Hid (∃ l:List ByteArray,l=ka :: zy (ts.take (i+1)) k/\ln=l.length/\OwnS wq w.heap.size (.slice la ln lc) l/\Below w.heap.size w wq):=by
     refine ⟨l,?_,HL.out.2.1,HQ.out.1,HQ.out.2⟩
     have e:zy (ts.take (i+1)) k=zy (ts.take i) k:=by rw [HT.out];simp [e1]
     rw [e];exact HL.out.1
    clear HT HL htl
    go_wp2_with fail
    go_roundg (n - (i+1))
    case measure=>omega
    case rel=>exact ⟨i+1,(la,ln,lc),rfl,by simp,by omega,Nat.le_refl _,HF⟩
  ·obtain rfl:i=n:=by omega
   have HF:Hid (l=ka :: zy ts k/\ln=l.length/\Row wr 1 la ln lc (strC l)/\Below w.heap.size w wr):=by
    refine ⟨?_,hln,hown.row hln,hbel⟩
    rw [hl,HN.out,List.take_length]
   clear HL hl hln hown hbel
   go_wp2_with fail
   go_ret
   obtain ⟨h1,h2,h3,h4⟩:=HF.out
   exact ⟨la,ln,lc,rfl,by rw [h2,h1,List.length_cons],by rw [<-h1];exact h3,h4⟩
end Go.Proofs.YtngclmglmhiljaaGreatDoor
