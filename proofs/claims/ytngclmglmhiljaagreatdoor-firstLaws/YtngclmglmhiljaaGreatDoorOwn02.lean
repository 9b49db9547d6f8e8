/- Texts that the proofs of the First statements stand on, part Own02. -/
import Derived.Maps.AppendAt
import Derived.Laws.Concat
import Derived.Test.YtngclmglmhiljaaGreatDoorOwn01
set_option maxHeartbeats 16000000
set_option maxRecDepth 100000
namespace Go.Proofs.YtngclmglmhiljaaGreatDoor
open Go.RowKit
theorem qd6 (s:ByteArray):(s.toList == [])=(by8 s == []):=by rw [xz]
theorem vd (s:ByteArray) (w:World) (hs:s.size<=1048576):Calls Tryz.prog 102 #[.string s] w fun e w'=>e=.returned (.bool (nameOk (by8 s)))/\w'=w:=by
 have HL:Hid ((by8 s).length=s.size):=qy s
 by_cases h0:(by8 s == [])=true
 ·have h1:(s.toList == [])=true:=by rw [qd6];exact h0
  have H:Hid (nameOk (by8 s)=false):=by show _=_;unfold nameOk;rw [h0];rfl
  generalize nameOk (by8 s)=r at H
  clear h0
  go_enter Tryz.func102,Tryz.ntmps102
  go_wp2
  go_ret
  exact ⟨by rw [H.out];rfl,rfl⟩
 ·have h0:(by8 s == [])=false:=by simpa using h0
  have h1:(s.toList == [])=false:=by rw [qd6];exact h0
  have hp:0<s.size:=by
   rw [<-HL.out]
   have:by8 s≠[]:=by simpa using h0
   exact List.length_pos_iff.2 this
  have hix:=ku s 0 hp
  have hix':∀ W:World,(Instr.index 9 (.string s) (.int .i64 0)).run Tryz.prog W=.ok (.int .u8 (bt (by8 s) 0)) W:=hix
  by_cases h2:isL (bt (by8 s) 0)=true
  ·have H:Hid (nameOk (by8 s)=((((runEnd isN (by8 s) 0:Nat):Int) == (s.size:Int)) && decide ((s.size:Int)<=12))):=by show _=_;unfold nameOk;rw [h0,h2,HL.out];rfl
   have HE:Hid (∀ W:World,Calls Tryz.prog 113 #[.string s,.int .i64 0] W fun e w'=>e=.returned (.int .i64 (runEnd isN (by8 s) 0))/\w'=W):=fun W=>qbg s 0 W (Nat.zero_le _) hs
   generalize runEnd isN (by8 s) 0=m at H HE
   generalize bt (by8 s) 0=c at hix' h2
   generalize nameOk (by8 s)=r at H
   clear h0 hix
   by_cases h3:((m:Int) == (s.size:Int))=true
   ·have H2:Hid (r=decide ((s.size:Int)<=12)):=by have:=H.out;rwa [h3,Bool.true_and] at this
    clear H
    go_enter Tryz.func102,Tryz.ntmps102
    go_wp2_with (first | (go_at_call 112;refine (zx _ _).mono ?_;rintro e w' ⟨rfl,rfl⟩;rw [h2]) | (go_at_call 113;refine (HE.out _).mono ?_;rintro e w' ⟨rfl,rfl⟩))
    go_ret
    exact ⟨by rw [H2.out];rfl,rfl⟩
   ·have h3:((m:Int) == (s.size:Int))=false:=by simpa using h3
    have H2:Hid (r=false):=by have:=H.out;rwa [h3,Bool.false_and] at this
    clear H
    go_enter Tryz.func102,Tryz.ntmps102
    go_wp2_with (first | (go_at_call 112;refine (zx _ _).mono ?_;rintro e w' ⟨rfl,rfl⟩;rw [h2]) | (go_at_call 113;refine (HE.out _).mono ?_;rintro e w' ⟨rfl,rfl⟩))
    go_ret
    exact ⟨by rw [H2.out];rfl,rfl⟩
  ·have h2:isL (bt (by8 s) 0)=false:=by simpa using h2
   have H:Hid (nameOk (by8 s)=false):=by show _=_;unfold nameOk;rw [h2];simp
   generalize bt (by8 s) 0=c at hix' h2
   generalize nameOk (by8 s)=r at H
   clear h0 hix
   go_enter Tryz.func102,Tryz.ntmps102
   go_wp2_with (go_at_call 112;refine (zx _ _).mono ?_;rintro e w' ⟨rfl,rfl⟩;rw [h2])
   go_ret
   exact ⟨by rw [H.out];rfl,rfl⟩
theorem qf3 {l:List UInt8} {i:Nat} (hi:i<l.length) (h1:isL (bt l i)=false) (h2:i=0\/isD (bt l i)=false):nameOk l=false:=by
 unfold nameOk
 rcases h2 with rfl | h2
 ·rw [h1];simp
 ·have:(((runEnd isN l 0:Nat):Int) == (l.length:Int))=false:=by
   rw [beq_eq_false_iff_ne]
   intro e
   have:=qhw (p:=isN) l.length 0 (by omega) (by omega) i (Nat.zero_le _) hi
   unfold isN at this
   rw [h1,h2] at this
   cases this
  rw [this];simp
theorem qmk {l:List UInt8} (h:∀ i,i<l.length->isL (bt l i)=true\/(i≠0/\isD (bt l i)=true)):nameOk l=(decide ((1:Int)<=(l.length:Int)) && decide ((l.length:Int)<=12)):=by
 unfold nameOk
 cases l with
 | nil=>simp
 | cons a r =>
  have h0:isL (bt (a :: r) 0)=true:=by
   rcases h 0 (by simp) with h | h
   ·exact h
   ·exact absurd rfl h.1
  have hr:runEnd isN (a :: r) 0=(a :: r).length:=qfz (a :: r).length 0 (by omega) (fun j _ hj=>by
   unfold isN
   rcases h j hj with h | h
   ·rw [h];rfl
   ·rw [h.2];simp)
  rw [h0,hr]
  have h1:(1:Int)<=((a :: r).length:Int):=by simp;omega
  rw [decide_eq_true h1]
  simp
theorem yi (s:ByteArray) (w:World) (hs:s.size<=1048576):Calls Tryz.prog 53 #[.string s] w fun e w'=>e=.returned (.bool (nameOk (by8 s)))/\w'=w:=by
 have HL:Hid ((by8 s).length=s.size):=qy s
 obtain ⟨r,HR⟩:∃ r,Hid (nameOk (by8 s)=r):=⟨_,rfl⟩
 rw [HR.out]
 go_enter Tryz.func53,Tryz.ntmps53
 go_wp2
 go_loop [3] (fun v=>∃ k:Nat,k<=s.size/\v=.int .i64 k/\Hid (∀ i,i<k->isL (bt (by8 s) i)=true\/(i≠0/\isD (bt (by8 s) i)=true))) (fun v=>s.size - (intOf v).toNat)
 case atStart=>exact ⟨0,Nat.zero_le _,rfl,(fun i hi=>absurd hi (Nat.not_lt_zero _):∀ i,i<0->isL (bt (by8 s) i)=true\/(i≠0/\isD (bt (by8 s) i)=true))⟩
 case round =>
  obtain ⟨k,hk,rfl,J⟩:=hrel
  by_cases hlt:k<s.size
  ·have hix:=ku s k hlt
   have hl:k<(by8 s).length:=by rw [HL.out];exact hlt
   by_cases h1:isL (bt (by8 s) k)=true
   ·have J2:Hid (∀ i,i<k+1->isL (bt (by8 s) i)=true\/(i≠0/\isD (bt (by8 s) i)=true)):=fun i hi=>by
     rcases Nat.lt_or_ge i k with h | h
     ·exact J.out i h
     ·rw [show i=k by omega];exact .inl h1
    generalize bt (by8 s) k=c at hix h1
    clear hl J
    go_wp2_with (go_at_call 75;refine (qad _ _).mono ?_;rintro e w' ⟨rfl,rfl⟩;rw [h1])
    go_round
    case rel=>exact ⟨k+1,by omega,by go_num,J2⟩
    case measure=>simp [intOf];omega
   ·have h1:isL (bt (by8 s) k)=false:=by simpa using h1
    by_cases h0:k=0
    ·have HF:Hid (r=false):=by show _=_;rw [<-HR.out];exact qf3 hl h1 (.inl h0)
     generalize bt (by8 s) k=c at hix h1
     have hz:((k:Int) == 0)=true:=by simpa using h0
     clear hl J h0
     go_wp2_with (go_at_call 75;refine (qad _ _).mono ?_;rintro e w' ⟨rfl,rfl⟩;rw [h1])
     go_ret
     exact ⟨by rw [HF.out];rfl,rfl⟩
    ·have hz:((k:Int) == 0)=false:=by simpa using h0
     by_cases h2:isD (bt (by8 s) k)=true
     ·have J2:Hid (∀ i,i<k+1->isL (bt (by8 s) i)=true\/(i≠0/\isD (bt (by8 s) i)=true)):=fun i hi=>by
       rcases Nat.lt_or_ge i k with h | h
       ·exact J.out i h
       ·rw [show i=k by omega];exact .inr ⟨h0,h2⟩
      generalize bt (by8 s) k=c at hix h1 h2
      clear hl J h0
      go_wp2_with (first | (go_at_call 75;refine (qad _ _).mono ?_;rintro e w' ⟨rfl,rfl⟩;rw [h1]) | (go_at_call 76;refine (qd3 _ _).mono ?_;rintro e w' ⟨rfl,rfl⟩;rw [h2]))
      go_round
      case rel=>exact ⟨k+1,by omega,by go_num,J2⟩
      case measure=>simp [intOf];omega
     ·have h2:isD (bt (by8 s) k)=false:=by simpa using h2
      have HF:Hid (r=false):=by show _=_;rw [<-HR.out];exact qf3 hl h1 (.inr h2)
      generalize bt (by8 s) k=c at hix h1 h2
      clear hl J h0
      go_wp2_with (first | (go_at_call 75;refine (qad _ _).mono ?_;rintro e w' ⟨rfl,rfl⟩;rw [h1]) | (go_at_call 76;refine (qd3 _ _).mono ?_;rintro e w' ⟨rfl,rfl⟩;rw [h2]))
      go_ret
      exact ⟨by rw [HF.out];rfl,rfl⟩
  ·obtain rfl:k=s.size:=by omega
   have HF:Hid (r=(decide ((1:Int)<=(s.size:Int)) && decide ((s.size:Int)<=12))):=by
    show _=_
    rw [<-HR.out,qmk (by rw [HL.out];exact J.out),HL.out]
   clear J
   by_cases h1:(1:Int)<=(s.size:Int)
   ·have HF2:Hid (r=decide ((s.size:Int)<=12)):=by have:=HF.out;rwa [decide_eq_true h1,Bool.true_and] at this
    clear HF
    go_wp2
    go_ret
    exact ⟨by rw [HF2.out];rfl,rfl⟩
   ·have HF2:Hid (r=false):=by have:=HF.out;rwa [decide_eq_false h1,Bool.false_and] at this
    clear HF
    go_wp2
    go_ret
    exact ⟨by rw [HF2.out];rfl,rfl⟩
def txt1:ByteArray:=⟨#[37,116,111,107,101,110,32,65,32,47,47,32,120,10,37,37,32,115,58,32,65,32,49,50,59]⟩
def txt2:ByteArray:=⟨#[97,32,37,102,111,111]⟩
theorem qsl:scan (by8 txt1)=([(4,0,6),(1,7,8),(4,14,16),(1,17,18),(3,18,19),(1,20,21),(2,22,24),(3,24,25),(5,25,25)],-1):=by kernel_rfl
theorem qsm:scan (by8 txt2)=([],2):=by kernel_rfl
theorem qsn:((txt1.extract 0 6).toList == [37,116,111,107,101,110])=true:=by rw [xz,z9];kernel_rfl
theorem qso:((txt1.extract 14 16).toList == [37,37])=true:=by rw [xz,z9];kernel_rfl
theorem qsp:nameOk (by8 ⟨#[97,95,49]⟩)=true:=by kernel_rfl
theorem qsq:nameOk (by8 ⟨#[49,97]⟩)=false:=by kernel_rfl
theorem qkz (w:World):Calls Tryz.prog 150 #[] w fun e w'=>e=.returned (.bool true)/\Below w.heap.size w w':=by
 have H1:Hid (Calls Tryz.prog 108 #[.string txt1] w fun e w'=>qap txt1 w w' e):=qbm txt1 w (by decide)
 have H2:Hid (∀ W:World,Calls Tryz.prog 108 #[.string txt2] W fun e w'=>qap txt2 W w' e):=fun W=>qbm txt2 W (by decide)
 unfold qap at H1 H2
 rw [qsl] at H1
 rw [qsm] at H2
 simp only at H1 H2
 have N1:Hid (∀ W:World,Calls Tryz.prog 102 #[.string ⟨#[97,95,49]⟩] W fun e w'=>e=.returned (.bool true)/\w'=W):=fun W=>by
  have:=vd ⟨#[97,95,49]⟩ W (by decide)
  rwa [qsp] at this
 have N2:Hid (∀ W:World,Calls Tryz.prog 102 #[.string ⟨#[49,97]⟩] W fun e w'=>e=.returned (.bool false)/\w'=W):=fun W=>by
  have:=vd ⟨#[49,97]⟩ W (by decide)
  rwa [qsq] at this
 go_enter Tryz.func150,Tryz.ntmps150
 go_wp2_with fail
 refine H1.out.mono ?_
 rintro e w1 ⟨v1,rfl,hI1,hB1⟩
 have J1:Hid (IsW w1 w.heap.size txt1 v1 [(4,0,6),(1,7,8),(4,14,16),(1,17,18),(3,18,19),(1,20,21),(2,22,24),(3,24,25),(5,25,25)]/\Below w.heap.size w w1):=⟨hI1,hB1⟩
 clear hI1 hB1
 go_wp2_with fail
 refine (H2.out _).mono ?_
 rintro e w2 ⟨v2,rfl,hI2,hB2⟩
 have J2:Hid (IsW w2 w.heap.size txt1 v1 [(4,0,6),(1,7,8),(4,14,16),(1,17,18),(3,18,19),(1,20,21),(2,22,24),(3,24,25),(5,25,25)]/\Below w.heap.size w w2):=⟨J1.out.1.below hB2,qd J1.out.2 hB2⟩
 clear J1 hI2 hB2 H1 H2
 obtain ⟨a1,c1,rfl,hn1,hm1,hs1⟩:=zh J2.out.1
 have hm1:c1<=9223372036854775807:=by unfold maxLen at hm1;omega
 obtain ⟨g,rfl⟩:∃ g,a1=some ⟨g,0,none⟩:=hs1.elim (fun h=>absurd h.2.1 (by decide)) id
 obtain ⟨p00,p01,-⟩:=J2.out.1.at (i:=0) (x:=(4,0,6)) rfl
 obtain ⟨-,p21,p22⟩:=J2.out.1.at (i:=2) (x:=(4,14,16)) rfl
 obtain ⟨p40,-,-⟩:=J2.out.1.at (i:=4) (x:=(3,18,19)) rfl
 obtain ⟨p60,-,-⟩:=J2.out.1.at (i:=6) (x:=(2,22,24)) rfl
 obtain ⟨p80,-,-⟩:=J2.out.1.at (i:=8) (x:=(5,25,25)) rfl
 have t1:=qsn
 have t2:=qso
 simp only at p00 p01 p21 p22 p40 p60 p80
 generalize txt1.extract 0 6=x1 at p01 t1
 generalize txt1.extract 14 16=x2 at p21 t2
 have HB:Hid (Below w.heap.size w w2):=J2.out.2
 clear hs1 J2
 have p00:w2.cell? ⟨g,0,none⟩=some (.int .i64 4):=p00
 have p01:w2.cell? ⟨g,1,none⟩=some (.string x1):=p01
 have p21:w2.cell? ⟨g,7,none⟩=some (.string x2):=p21
 have p22:w2.cell? ⟨g,8,none⟩=some (.int .i64 14):=p22
 have p40:w2.cell? ⟨g,12,none⟩=some (.int .i64 3):=p40
 have p60:w2.cell? ⟨g,18,none⟩=some (.int .i64 2):=p60
 have p80:w2.cell? ⟨g,24,none⟩=some (.int .i64 5):=p80
 simp only [List.length_cons,List.length_nil] at hn1 ⊢
 go_wp2_with fail
 refine (N1.out _).mono ?_
 rintro e w7 ⟨rfl,rfl⟩
 go_wp2_with fail
 refine (N2.out _).mono ?_
 rintro e w8 ⟨rfl,rfl⟩
 go_wp2_with fail
 go_ret
 exact ⟨rfl,HB.out⟩
structure Tk where
 n:ByteArray
 l:Int
 a:Int
structure Ru where
 l:ByteArray
 r:List ByteArray
 p:ByteArray
structure Gm where
 ts:List Tk
 s:ByteArray
 e:Int
 rs:List Ru
theorem qlx {a b:ByteArray} (h:by8 a=by8 b):a=b:=by
 apply ByteArray.ext
 exact Array.toList_inj.1 h
theorem j3 (a b:ByteArray):(a.toList == b.toList)=true↔a=b:=by
 rw [xz,xz]
 constructor
 ·intro h;exact qlx (by simpa using h)
 ·rintro rfl;simp
theorem k9 {a b:ByteArray} (h:a≠b):(a.toList == b.toList)=false:=by
 cases hb:(a.toList == b.toList)
 ·rfl
 ·exact absurd ((j3 a b).1 hb) h
theorem xh {a b:ByteArray} (h:a=b):(a.toList == b.toList)=true:=(j3 a b).2 h
theorem zo (a:ByteArray):(a.toList == [])=true↔a=⟨#[]⟩:=by
 have:=j3 a ⟨#[]⟩
 have e:(⟨#[]⟩:ByteArray).toList=[]:=by rw [xz];rfl
 rwa [e] at this
def zp (s:ByteArray):Prop:=nameOk (by8 s)=true
def kn (s:ByteArray):Prop:=s=⟨#[]⟩\/zp s
def LevP (t:Tk):Prop:=(t.l=0/\t.a=0)\/(1<=t.l/\t.l<=8/\1<=t.a/\t.a<=3)
def qer (t:Tk):Decidable (LevP t):=inferInstanceAs (Decidable ((t.l=0/\t.a=0)\/(1<=t.l/\t.l<=8/\1<=t.a/\t.a<=3)))
def levB (t:Tk):Bool:=haveI:=qer t;decide (LevP t)
theorem qaq {t:Tk}:levB t=true↔LevP t:=@decide_eq_true_iff (LevP t) (qer t)
theorem qpa {t:Tk} (h:¬ LevP t):levB t=false:=@decide_eq_false (LevP t) (qer t) h
def at9 (l:List Int) (i:Int):Int:=(l[i.toNat]?).getD 0
def levS (o:Option (List Int)) (t:Tk):Option (List Int) :=
 match o with
 | none=>none
 | some l=>haveI:=qer t;if LevP t/\(at9 l t.l=0\/at9 l t.l=t.a) then some (l.set t.l.toNat t.a) else none
def jl:List Int:=[0,0,0,0,0,0,0,0,0]
def levF (ts:List Tk):Option (List Int):=ts.foldl levS (some jl)
theorem qhy (ts:List Tk):ts.foldl levS none=none:=by
 induction ts with
 | nil=>rfl
 | cons t r ih=>exact ih
theorem qcd (ts:List Tk) (t:Tk):levF (ts++[t])=levS (levF ts) t:=by unfold levF;rw [List.foldl_append];rfl
theorem zn {α:Type} {l:List α} {k:Nat} {x:α} (h:l[k]?=some x):l.take (k+1)=l.take k++[x]:=by
 rw [List.take_add_one,h];rfl
theorem qc8 {ts:List Tk} {k:Nat} (h:levF (ts.take k)=none):levF ts=none:=by
 conv=>lhs;rw [<-List.take_append_drop k ts]
 unfold levF at h ⊢
 rw [List.foldl_append,h,qhy]
theorem qk0 {l l':List Int} {t:Tk} (h:levS (some l) t=some l') (hl:l.length=9):l'.length=9:=by
 unfold levS at h
 simp only at h
 split at h
 ·cases h;simpa using hl
 ·cases h
theorem qhz:∀ (ts:List Tk) (l l':List Int),l.length=9->ts.foldl levS (some l)=some l'->l'.length=9
 | [],l,l',hl,h=>by cases h;exact hl
 | t :: r,l,l',hl,h=>by
  have h:r.foldl levS (levS (some l) t)=some l':=h
  cases hm:levS (some l) t with
  | none=>rw [hm,qhy] at h;cases h
  | some m=>rw [hm] at h;exact qhz r m l' (qk0 hm hl) h
theorem yj {ts:List Tk} {l:List Int} (h:levF ts=some l):l.length=9:=qhz ts jl l rfl h
def qaf (l:List Int):Prop:=∀ k:Nat,2<=k->k<9->(l[k]?).getD 0≠0->(l[k - 1]?).getD 0≠0
def TokP (ts:List Tk):Prop :=
 (∀ (i:Nat) (t:Tk),ts[i]?=some t->zp t.n/\∀ (j:Nat) (u:Tk),j<i->ts[j]?=some u->u.n≠t.n)/\∃ l,levF ts=some l/\qaf l
def xq (r:Ru):Prop:=zp r.l/\r.r.length<=20/\kn r.p/\∀ x∈r.r,zp x
structure MayP (G:Gm):Prop where
 nt:G.ts.length<=40
 nr:G.rs.length<=100
 e0:0<=G.e
 e1:G.e<=9999
 st:kn G.s
 tk:TokP G.ts
 rl:∀ r∈G.rs,xq r
structure Small (G:Gm):Prop where
 nt:G.ts.length<=100
 nr:G.rs.length<=200
 st:G.s.size<=100
 tk:∀ t∈G.ts,t.n.size<=100
 rl:∀ r∈G.rs,r.l.size<=100/\r.p.size<=100/\r.r.length<=100/\∀ x∈r.r,x.size<=100
structure SR where
 l:Int
 r:List Nat
 lv:Int
 a:Int
structure Sp where
 tk:Nat
 nt:Nat
 st:Nat
 ex:Int
 nm:List ByteArray
 lv:List Int
 az:List Int
 rs:List SR
structure WF (S:Sp):Prop where
 nm:S.nm.length=S.tk+1+S.nt
 lv:S.lv.length=S.tk
 az:S.az.length=S.tk
 tk:S.tk<=100
 nt:S.nt<=200
 nr:S.rs.length<=300
 hd:S.rs[0]?=some ⟨-1,[S.st],0,0⟩
 st:S.tk<S.st/\S.st<S.tk+1+S.nt
 rl:∀ (i:Nat) (r:SR),0<i->S.rs[i]?=some r->∃ x:Nat,r.l=(x:Int)/\S.tk<x/\x<S.tk+1+S.nt
 rr:∀ r∈S.rs,r.r.length<=100/\∀ y∈r.r,y<S.tk+1+S.nt
def Der (S:Sp) (x:Nat):Prop:=∀ P:Nat->Prop,(∀ x,x<S.tk->P x)->(∀ (i:Nat) (r:SR) (x:Nat),0<i->S.rs[i]?=some r->r.l=(x:Int)->(∀ y∈r.r,P y)->P x)->P x
theorem Der.tok {S:Sp} (x:Nat) (h:x<S.tk):Der S x:=fun _ h1 _=>h1 x h
theorem Der.rule {S:Sp} (i:Nat) (r:SR) (x:Nat) (h0:0<i) (hr:S.rs[i]?=some r) (hl:r.l=(x:Int)) (h:∀ y∈r.r,Der S y):Der S x:=fun P h1 h2=>h2 i r x h0 hr hl (fun y hy=>h y hy P h1 h2)
def Rch (S:Sp) (x:Nat):Prop:=∀ P:Nat->Prop,P S.st->(∀ (i:Nat) (r:SR) (x y:Nat),0<i->S.rs[i]?=some r->r.l=(x:Int)->P x->y∈r.r->P y)->P x
theorem Rch.start {S:Sp}:Rch S S.st:=fun _ h1 _=>h1
theorem Rch.rule {S:Sp} (i:Nat) (r:SR) (x y:Nat) (h0:0<i) (hr:S.rs[i]?=some r) (hl:r.l=(x:Int)) (h:Rch S x) (hy:y∈r.r):Rch S y:=fun P h1 h2=>h2 i r x y h0 hr hl (h P h1 h2) hy
def ko (p:Nat->Prop) (l:List Bool):Prop:=∀ (x:Nat) (b:Bool),l[x]?=some b->(b=true↔p x)
def isF (fd:List Bool) (x:Nat):Bool:=(fd[x]?).getD false
def prc (fd:List Bool) (fr:List Nat) (x:Nat):Bool:=isF fd x && !fr.contains x
def nU (P:Nat->Bool) (l:List Nat):Nat:=l.countP (fun x=>!P x)
theorem qjk {fd:List Bool} {x:Nat} (h:isF fd x=true):x<fd.length:=by
 unfold isF at h
 rcases Nat.lt_or_ge x fd.length with hx | hx
 ·exact hx
 ·rw [List.getElem?_eq_none hx] at h;cases h
theorem vm {fd:List Bool} {x:Nat} (h:x<fd.length):fd[x]?=some (isF fd x):=by
 unfold isF;rw [List.getElem?_eq_getElem h];rfl
theorem k8 {fd:List Bool} {x:Nat} (h:x<fd.length) (y:Nat):isF (fd.set x true) y=if y=x then true else isF fd y:=by
 unfold isF
 rw [List.getElem?_set]
 by_cases hy:x=y
 ·subst hy;simp [h]
 ·rw [if_neg hy,if_neg (fun e=>hy e.symm)]
theorem qbz {fd:List Bool} {x y:Nat} (h:x<fd.length) (hy:isF fd y=true):isF (fd.set x true) y=true:=by
 rw [k8 h];split
 ·rfl
 ·exact hy
theorem qpb {fd:List Bool} {fr:List Nat} {x:Nat} (h:x<fd.length) (hf:isF fd x=false):prc (fd.set x true) (fr++[x])=prc fd fr:=by
 funext y
 unfold prc
 rw [k8 h]
 by_cases hy:y=x
 ·subst hy;simp [hf]
 ·rw [if_neg hy]
  have:(fr++[x]).contains y=fr.contains y:=by simp [hy]
  rw [this]
theorem qg5 {fd:List Bool} {fr:List Nat} {x:Nat} (hf:isF fd x=true) (hx:x ∉ fr) (y:Nat):prc fd fr y=if y=x then true else prc fd (fr++[x]) y:=by
 unfold prc
 by_cases hy:y=x
 ·subst hy;simp [hf,hx]
 ·rw [if_neg hy]
  have:(fr++[x]).contains y=fr.contains y:=by simp [hy]
  rw [this]
theorem qjl {fd:List Bool} {fr:List Nat} {x:Nat} (hf:isF fd x=true) (hx:x ∉ fr):∀ l:List Nat,nU (prc fd (fr++[x])) l=nU (prc fd fr) l+l.count x
 | []=>rfl
 | y :: l=>by
  have ih:=qjl hf hx l
  unfold nU at ih ⊢
  rw [List.countP_cons,List.countP_cons,List.count_cons,ih]
  have hp:=qg5 hf hx y
  by_cases hy:y=x
  ·subst hy
   rw [if_pos rfl] at hp
   have hq:prc fd (fr++[y]) y=false:=by unfold prc;simp
   rw [hp,hq]
   simp
   omega
  ·rw [if_neg hy] at hp
   rw [hp]
   simp [hy]
   omega
theorem qly {P:Nat->Bool} {l:List Nat}:nU P l=0↔∀ x∈l,P x=true:=by
 unfold nU
 rw [List.countP_eq_zero]
 constructor
 ·intro h x hx;have:=h x hx;simpa using this
 ·intro h x hx;simp [h x hx]
theorem qry {P:Nat->Bool} (hP:∀ x,P x=false) (l:List Nat):nU P l=l.length:=by
 unfold nU
 rw [List.countP_eq_length]
 intro x _
 simp [hP x]
def lft (n:Nat) (fd:List Bool) (fr:List Nat):Nat:=nU (prc fd fr) (List.range n)
theorem qg6 {n:Nat} {fd:List Bool} {fr:List Nat} {x:Nat} (hn:x<n) (hf:isF fd x=true) (hx:x ∉ fr):lft n fd fr<lft n fd (fr++[x]):=by
 unfold lft
 rw [qjl hf hx]
 have:0<(List.range n).count x:=List.count_pos_iff.2 (List.mem_range.2 hn)
 omega
structure MK (n:Nat) (fd:List Bool) (fr:List Nat):Prop where
 len:fd.length=n
 nd:fr.Nodup
 fd:∀ x∈fr,isF fd x=true
theorem MK.mark {n:Nat} {fd:List Bool} {fr:List Nat} {x:Nat} (h:MK n fd fr) (hx:x<n) (hf:isF fd x=false):MK n (fd.set x true) (fr++[x]):=by
 refine ⟨by rw [List.length_set];exact h.len,?_,?_⟩
 ·rw [List.nodup_append]
  refine ⟨h.nd,by simp,?_⟩
  intro a ha b hb e
  rw [List.mem_singleton] at hb
  subst hb
  subst e
  have:=h.fd a ha
  rw [hf] at this
  cases this
 ·intro y hy
  rw [k8 (by rw [h.len];exact hx)]
  split
  ·rfl
  ·rcases List.mem_append.1 hy with h1 | h1
   ·exact h.fd y h1
   ·rw [List.mem_singleton] at h1
    contradiction
theorem MK.pop {n:Nat} {fd:List Bool} {fr:List Nat} {x:Nat} (h:MK n fd (fr++[x])):MK n fd fr/\x ∉ fr/\isF fd x=true/\x<n:=by
 have h1:=List.nodup_append.1 h.nd
 have h2:=h.fd x (by simp)
 refine ⟨⟨h.len,h1.1,fun y hy=>h.fd y (List.mem_append_left _ hy)⟩,?_,h2,by have:=qjk h2;rw [h.len] at this;exact this⟩
 intro hx
 exact h1.2.2 x hx x (by simp) rfl
theorem qjm:∀ (n:Nat) (l:List Nat),l.Nodup->(∀ x∈l,x<n)->l.length<=n
 | 0,l,_,h=>by
  cases l with
  | nil=>exact Nat.le_refl _
  | cons a r=>exact absurd (h a (by simp)) (Nat.not_lt_zero _)
 | n+1,l,hd,h=>by
  have h1:=qjm n (l.filter (fun x=>x != n)) (hd.filter _) (fun x hx=>by
   rw [List.mem_filter] at hx
   have:=h x hx.1
   have h2:x≠n:=by simpa using hx.2
   omega)
  have h3:=List.length_eq_countP_add_countP (fun x=>x != n) (l:=l)
  rw [List.countP_eq_length_filter] at h3
  have h4:List.countP (fun a=>!(a != n)) l<=1:=by
   have e:List.countP (fun a=>!(a != n)) l=l.count n:=by
    unfold List.count
    congr 1
    funext a
    cases h:a == n <;> simp_all
   rw [e]
   by_cases hm:n∈l
   ·rw [hd.count,if_pos hm]
    exact Nat.le_refl _
   ·rw [List.count_eq_zero.2 hm];omega
  have h5:List.countP (fun a=>decide ¬(a != n)=true) l=List.countP (fun a=>!(a != n)) l:=by
   congr 1
   funext a
   cases a != n <;> simp
  omega
theorem MK.le {n:Nat} {fd:List Bool} {fr:List Nat} (h:MK n fd fr):fr.length<=n :=
 qjm n fr h.nd (fun x hx=>by have:=qjk (h.fd x hx);rw [h.len] at this;exact this)
def mkd (fd:List Bool) (fr:List Nat) (x:Nat):List Bool × List Nat:=if isF fd x then (fd,fr) else (fd.set x true,fr++[x])
structure Adds (n:Nat) (fd:List Bool) (fr:List Nat) (fd':List Bool) (fr':List Nat):Prop where
 ok:MK n fd' fr'
 up:∀ x,isF fd x=true->isF fd' x=true
 pr:prc fd' fr'=prc fd fr
theorem Adds.refl {n:Nat} {fd:List Bool} {fr:List Nat} (h:MK n fd fr):Adds n fd fr fd fr:=⟨h,fun _ h=>h,rfl⟩
theorem Adds.trans {n:Nat} {fd fd1 fd2:List Bool} {fr fr1 fr2:List Nat} (h:Adds n fd fr fd1 fr1) (k:Adds n fd1 fr1 fd2 fr2):Adds n fd fr fd2 fr2:=⟨k.ok,fun x hx=>k.up x (h.up x hx),k.pr.trans h.pr⟩
theorem y9 {n:Nat} {fd:List Bool} {fr:List Nat} {x:Nat} (h:MK n fd fr) (hx:x<n):Adds n fd fr (mkd fd fr x).1 (mkd fd fr x).2/\isF (mkd fd fr x).1 x=true/\∀ y,isF (mkd fd fr x).1 y=true->isF fd y=true\/y=x:=by
 unfold mkd
 cases hf:isF fd x
 ·have hl:x<fd.length:=by rw [h.len];exact hx
  refine ⟨⟨h.mark hx hf,fun y hy=>qbz hl hy,qpb hl hf⟩,?_,?_⟩
  ·simp only [Bool.false_eq_true,if_false]
   rw [k8 hl,if_pos rfl]
  ·intro y hy
   simp only [Bool.false_eq_true,if_false] at hy
   rw [k8 hl] at hy
   split at hy
   ·right;assumption
   ·exact .inl hy
 ·exact ⟨Adds.refl h,hf,fun y hy=>.inl hy⟩
theorem qff {n:Nat} {fd fd':List Bool} {fr fr':List Nat} (h:Adds n fd fr fd' fr'):lft n fd' fr'=lft n fd fr:=by unfold lft;rw [h.pr]
def Wts (S:Sp) (i:Nat) (wt:List (List Nat)):Prop:=∀ (x:Nat) (l:List Nat),wt[x]?=some l->∀ j,l.count j=match S.rs[j]? with | some r=>if 0<j/\j<i then r.r.count x else 0 | none=>0
def Miss (S:Sp) (ms:List Int) (P:Nat->Bool) (ex:Nat->Nat):Prop:=∀ (i:Nat) (r:SR),0<i->S.rs[i]?=some r->ms[i]?=some ((nU P r.r+ex i:Nat):Int)
def Zero (S:Sp) (ms:List Int) (fd:List Bool):Prop:=∀ (i:Nat) (r:SR) (x:Nat),0<i->S.rs[i]?=some r->r.l=(x:Int)->ms[i]?=some 0->isF fd x=true
def yo (S:Sp) (fd:List Bool):Prop:=∀ x,isF fd x=true->Der S x
def Toks (S:Sp) (fd:List Bool):Prop:=∀ x,x<S.tk->isF fd x=true
theorem qex {S:Sp} {fd:List Bool} (hc:∀ (i:Nat) (r:SR) (x:Nat),0<i->S.rs[i]?=some r->r.l=(x:Int)->(∀ y∈r.r,isF fd y=true)->isF fd x=true) (hd:yo S fd) (ht:Toks S fd):ko (Der S) fd:=by
 have key:∀ x,Der S x->isF fd x=true:=by
  intro x hx
  exact hx (fun x=>isF fd x=true) ht hc
 intro x b hb
 constructor
 ·rintro rfl
  exact hd x (by unfold isF;rw [hb];rfl)
 ·intro h
  have:=key x h
  unfold isF at this
  rw [hb] at this
  exact this
theorem qg7 (fd:List Bool) (x:Nat):prc fd [] x=isF fd x:=by unfold prc;simp
theorem qml {S:Sp} {ms:List Int} {fd:List Bool} (hm:Miss S ms (prc fd []) (fun _=>0)) (hz:Zero S ms fd) (hd:yo S fd) (ht:Toks S fd):ko (Der S) fd:=by
 refine qex (fun i r x h0 hr hl ih=>hz i r x h0 hr hl ?_) hd ht
 rw [hm i r h0 hr]
 have:nU (prc fd []) r.r=0:=qly.2 (fun y hy=>by rw [qg7];exact ih y hy)
 rw [this]
 rfl
def qd7 (S:Sp) (fd:List Bool):Prop:=∀ x,isF fd x=true->Rch S x
def Clo (S:Sp) (P:Nat->Bool) (fd:List Bool):Prop:=∀ (i:Nat) (r:SR) (x y:Nat),0<i->S.rs[i]?=some r->r.l=(x:Int)->P x=true->y∈r.r->isF fd y=true
def Rls (S:Sp) (i:Nat) (wt:List (List Nat)):Prop:=∀ (x:Nat) (l:List Nat),wt[x]?=some l->∀ j,j∈l↔(0<j/\j<i/\∃ r,S.rs[j]?=some r/\r.l=(x:Int))
theorem qey {S:Sp} {fd:List Bool} (hc:Clo S (isF fd) fd) (hd:qd7 S fd) (hs:isF fd S.st=true):ko (Rch S) fd:=by
 have key:∀ x,Rch S x->isF fd x=true:=by
  intro x hx
  exact hx (fun x=>isF fd x=true) hs hc
 intro x b hb
 constructor
 ·rintro rfl
  exact hd x (by unfold isF;rw [hb];rfl)
 ·intro h
  have:=key x h
  unfold isF at this
  rw [hb] at this
  exact this
theorem qpc {S:Sp} {ms:List Int} {fd:List Bool} {fr:List Nat} {x:Nat} {l:List Nat} {wt:List (List Nat)} (hm:Miss S ms (prc fd (fr++[x])) (fun _=>0)) (hf:isF fd x=true) (hx:x ∉ fr) (hw:Wts S S.rs.length wt) (hl:wt[x]?=some l):Miss S ms (prc fd fr) (fun i=>(l.drop 0).count i):=by
 intro i r h0 hr
 have hi:i<S.rs.length:=(List.getElem?_eq_some_iff.1 hr).1
 have hc:=hw x l hl i
 rw [hr] at hc
 simp only [h0,hi,and_self,if_true] at hc
 rw [hm i r h0 hr,qjl hf hx]
 simp only [List.drop_zero,Nat.add_zero,hc]
theorem qnp {S:Sp} {ms:List Int} {P:Nat->Bool} {l:List Nat} {k i:Nat} (hk:l[k]?=some i) {r:SR} (h0:0<i) (hr:S.rs[i]?=some r) (hm:Miss S ms P (fun j=>(l.drop k).count j)):∃ z:Int,ms[i]?=some z/\1<=z/\z<=(r.r.length+l.length:Nat)/\Miss S (ms.set i (z - 1)) P (fun j=>(l.drop (k+1)).count j):=by
 have hd:l.drop k=i :: l.drop (k+1):=by
  have hkl:=(List.getElem?_eq_some_iff.1 hk)
  obtain ⟨h1,h2⟩:=hkl
  rw [<-h2]
  exact (List.drop_eq_getElem_cons h1)
 have hz:=hm i r h0 hr
 refine ⟨_,hz,?_,?_,?_⟩
 ·rw [hd];simp;omega
 ·have h1:nU P r.r<=r.r.length:=List.countP_le_length
  have h2:(l.drop k).count i<=l.length:=Nat.le_trans List.count_le_length (by simp)
  simp only
  omega
 ·intro j q hj0 hq
  rw [List.getElem?_set]
  have hil:i<ms.length:=(List.getElem?_eq_some_iff.1 hz).1
  by_cases hij:i=j
  ·subst hij
   rw [if_pos rfl,if_pos hil]
   rw [hr] at hq
   cases hq
   rw [hd]
   simp
   omega
  ·rw [if_neg hij,hm j q hj0 hq,hd]
   simp [hij]
def Nul (S:Sp) (x:Nat):Prop:=∀ P:Nat->Prop,(∀ (i:Nat) (r:SR) (x:Nat),0<i->S.rs[i]?=some r->r.l=(x:Int)->(∀ y∈r.r,P y)->P x)->P x
theorem Nul.rule {S:Sp} (i:Nat) (r:SR) (x:Nat) (h0:0<i) (hr:S.rs[i]?=some r) (hl:r.l=(x:Int)) (h:∀ y∈r.r,Nul S y):Nul S x:=fun P h2=>h2 i r x h0 hr hl (fun y hy=>h y hy P h2)
def FstP (S:Sp) (x a:Nat):Prop:=∀ P:Nat->Nat->Prop,(∀ x,x<S.tk->P x x)->(∀ (i:Nat) (r:SR) (x y a:Nat) (u v:List Nat),0<i->S.rs[i]?=some r->r.l=(x:Int)->r.r=u++y :: v->(∀ z∈u,Nul S z)->P y a->P x a)->P x a
theorem FstP.tok {S:Sp} (x:Nat) (h:x<S.tk):FstP S x x:=fun _ h1 _=>h1 x h
theorem FstP.rule {S:Sp} (i:Nat) (r:SR) (x y a:Nat) (u v:List Nat) (h0:0<i) (hr:S.rs[i]?=some r) (hl:r.l=(x:Int)) (he:r.r=u++y :: v) (hu:∀ z∈u,Nul S z) (h:FstP S y a):FstP S x a:=fun P h1 h2=>h2 i r x y a u v h0 hr hl he hu (h P h1 h2)
def FstL (S:Sp) (l:List Nat) (a:Nat):Prop:=∃ u y v,l=u++y :: v/\(∀ z∈u,Nul S z)/\FstP S y a
def FolP (S:Sp) (x a:Nat):Prop:=∀ P:Nat->Nat->Prop,P S.st S.tk->(∀ (i:Nat) (r:SR) (x y a:Nat) (u v:List Nat),0<i->S.rs[i]?=some r->r.l=(x:Int)->r.r=u++y :: v->S.tk<y->FstL S v a->P y a)->(∀ (i:Nat) (r:SR) (x y a:Nat) (u v:List Nat),0<i->S.rs[i]?=some r->r.l=(x:Int)->r.r=u++y :: v->S.tk<y->(∀ z∈v,Nul S z)->P x a->P y a)->P x a
theorem FolP.start {S:Sp}:FolP S S.st S.tk:=fun _ h1 _ _=>h1
theorem FolP.first {S:Sp} (i:Nat) (r:SR) (x y a:Nat) (u v:List Nat) (h0:0<i) (hr:S.rs[i]?=some r) (hl:r.l=(x:Int)) (he:r.r=u++y :: v) (hy:S.tk<y) (h:FstL S v a):FolP S y a:=fun _ _ h2 _=>h2 i r x y a u v h0 hr hl he hy h
theorem FolP.last {S:Sp} (i:Nat) (r:SR) (x y a:Nat) (u v:List Nat) (h0:0<i) (hr:S.rs[i]?=some r) (hl:r.l=(x:Int)) (he:r.r=u++y :: v) (hy:S.tk<y) (hv:∀ z∈v,Nul S z) (h:FolP S x a):FolP S y a:=fun P h1 h2 h3=>h3 i r x y a u v h0 hr hl he hy hv (h P h1 h2 h3)
theorem qc9 {S:Sp} {a:Nat}:¬ FstL S [] a:=fun ⟨u,y,v,h,_⟩=>by cases u <;> cases h
theorem qba {S:Sp} {x a:Nat} {l:List Nat}:FstL S (x :: l) a↔FstP S x a\/(Nul S x/\FstL S l a):=by
 constructor
 ·rintro ⟨u,y,v,h,hu,hy⟩
  cases u with
  | nil=>cases h;exact .inl hy
  | cons z u =>
   cases h
   exact .inr ⟨hu _ (by simp),u,y,v,rfl,fun w hw=>hu w (List.mem_cons_of_mem _ hw),hy⟩
 ·rintro (h | ⟨h,u,y,v,rfl,hu,hy⟩)
  ·exact ⟨[],x,l,rfl,(fun z hz=>by cases hz),h⟩
  ·refine ⟨x :: u,y,v,rfl,fun z hz=>?_,hy⟩
   rcases List.mem_cons.1 hz with rfl | hz
   ·exact h
   ·exact hu z hz
theorem FstP.lt {S:Sp} {x a:Nat} (h:FstP S x a):a<S.tk:=h (fun _ a=>a<S.tk) (fun _ h=>h) (fun _ _ _ _ _ _ _ _ _ _ _ _ h=>h)
def Wy (W:List (List Nat)) (a b:Nat):Prop:=∃ l,W[a]?=some l/\b∈l
def Got (W:List (List Nat)) (a b:Nat):Prop:=∀ P:Nat->Prop,P a->(∀ x y,P x->Wy W x y->P y)->P b
theorem Got.refl {W:List (List Nat)} (a:Nat):Got W a a:=fun _ h _=>h
theorem Got.step {W:List (List Nat)} {a b c:Nat} (h:Got W a b) (k:Wy W b c):Got W a c:=fun P h1 h2=>h2 b c (h P h1 h2) k
theorem Got.trans {W:List (List Nat)} {a b c:Nat} (h:Got W a b) (k:Got W b c):Got W a c:=fun P h1 h2=>k P (h P h1 h2) h2
theorem Got.head {W:List (List Nat)} {a b c:Nat} (h:Wy W a b) (k:Got W b c):Got W a c:=((Got.refl a).step h).trans k
theorem qfg {W:List (List Nat)} {M:Nat->Nat->Prop} (h:∀ a b t,Wy W a b->M b t->M a t) {a t:Nat} (hg:Got W a t) (ht:M t t):M a t:=by
 have:=hg (fun b=>∀ t,M b t->M a t) (fun _ h=>h) (fun x y h1 h2 t h3=>h1 t (h x y t h2 h3))
 exact this t ht
theorem qb0 {W:List (List Nat)} {a b:Nat} {l:List Nat} (hl:W[a]?=some l) (x y:Nat):Wy (W.set a (l++[b])) x y↔Wy W x y\/(x=a/\y=b):=by
 have ha:a<W.length:=(List.getElem?_eq_some_iff.1 hl).1
 unfold Wy
 rw [List.getElem?_set]
 by_cases hx:a=x
 ·subst hx
  rw [if_pos rfl,if_pos ha,hl]
  constructor
  ·rintro ⟨m,hm,hy⟩
   cases hm
   rcases List.mem_append.1 hy with h | h
   ·exact .inl ⟨l,rfl,h⟩
   ·exact .inr ⟨rfl,List.mem_singleton.1 h⟩
  ·rintro (⟨m,hm,hy⟩ | ⟨-,rfl⟩)
   ·cases hm
    exact ⟨_,rfl,List.mem_append_left _ hy⟩
   ·exact ⟨_,rfl,by simp⟩
 ·rw [if_neg hx]
  constructor
  ·exact .inl
  ·rintro (h | ⟨h,-⟩)
   ·exact h
   ·exact absurd h.symm hx
theorem qct {W:List (List Nat)} {m:List Nat} (x y:Nat):Wy (W++[m]) x y↔Wy W x y\/(x=W.length/\y∈m):=by
 unfold Wy
 rcases Nat.lt_or_ge x W.length with h | h
 ·rw [List.getElem?_append_left h]
  constructor
  ·exact .inl
  ·rintro (h1 | ⟨h1,-⟩)
   ·exact h1
   ·omega
 ·rw [List.getElem?_append_right h,List.getElem?_eq_none h]
  constructor
  ·rintro ⟨l,hl,hy⟩
   have h2:=(List.getElem?_eq_some_iff.1 hl).1
   simp at h2
   have:x=W.length:=by omega
   subst this
   simp at hl
   subst hl
   exact .inr ⟨rfl,hy⟩
  ·rintro (⟨l,hl,-⟩ | ⟨rfl,hy⟩)
   ·cases hl
   ·exact ⟨m,by simp,hy⟩
def Rest (E:Nat->Prop) (W:List (List Nat)) (c:Nat):List Nat->Nat->Prop
 | [],p=>p=c
 | z :: v,p=>(E z/\∃ q,Wy W p z/\Wy W p q/\Rest E W c v q)\/(¬ E z/\p=z)
theorem Rest.mono {E:Nat->Prop} {W W':List (List Nat)} {c:Nat} (h:∀ a b,Wy W a b->Wy W' a b):∀ (v:List Nat) (p:Nat),Rest E W c v p->Rest E W' c v p
 | [],_,k=>k
 | _ :: v,_,k=>by
  rcases k with ⟨h1,q,h2,h3,h4⟩ | k
  ·exact .inl ⟨h1,q,h _ _ h2,h _ _ h3,Rest.mono h v q h4⟩
  ·exact .inr k
theorem Rest.first {E:Nat->Prop} {W:List (List Nat)} {c t:Nat}:∀ (v:List Nat) (p:Nat),Rest E W c v p->∀ (u:List Nat) (y:Nat) (v':List Nat),v=u++y :: v'->(∀ z∈u,E z)->Got W y t->Got W p t
 | [],_,_,u,y,v',he,_,_=>by cases u <;> cases he
 | z :: v,p,k,u,y,v',he,hu,hg=>by
  cases u with
  | nil =>
   cases he
   rcases k with ⟨-,q,h2,-,-⟩ | ⟨-,rfl⟩
   ·exact Got.head h2 hg
   ·exact hg
  | cons w u =>
   cases he
   rcases k with ⟨-,q,-,h3,h4⟩ | ⟨h1,-⟩
   ·exact Got.head h3 (Rest.first _ q h4 u y v' rfl (fun z hz=>hu z (List.mem_cons_of_mem _ hz)) hg)
   ·exact absurd (hu _ (by simp)) h1
theorem Rest.last {E:Nat->Prop} {W:List (List Nat)} {c t:Nat}:∀ (v:List Nat) (p:Nat),Rest E W c v p->(∀ z∈v,E z)->Got W c t->Got W p t
 | [],_,rfl,_,hg=>hg
 | z :: v,p,k,hu,hg=>by
  rcases k with ⟨-,q,-,h3,h4⟩ | ⟨h1,-⟩
  ·exact Got.head h3 (Rest.last _ q h4 (fun z hz=>hu z (List.mem_cons_of_mem _ hz)) hg)
  ·exact absurd (hu _ (by simp)) h1
def LS (S:Sp) (v:List Nat) (x t:Nat):Prop:=FstL S v t\/((∀ z∈v,Nul S z)/\FolP S x t)
structure Mng (S:Sp) (n:Nat) (M:Nat->Nat->Prop):Prop where
 sym:∀ x,x<n->∀ t,M x t↔FstP S x t\/(x=S.tk/\t=S.tk)
 fol:∀ x,x<n->∀ t,M (n+x) t↔FolP S x t
def qjb (S:Sp) (W:List (List Nat)) (i:Nat):Prop:=∀ (j:Nat) (r:SR) (x y:Nat) (u v:List Nat),0<j->j<i->S.rs[j]?=some r->r.l=(x:Int)->r.r=u++y :: v->(∀ z∈u,Nul S z)->Wy W x y
def qes (S:Sp) (n:Nat) (W:List (List Nat)) (i:Nat):Prop:=∀ (j:Nat) (r:SR) (x y:Nat) (u v:List Nat),0<j->j<i->S.rs[j]?=some r->r.l=(x:Int)->r.r=u++y :: v->S.tk<y->∃ p,Wy W (n+y) p/\Rest (Nul S) W (n+x) v p
def vv (W:List (List Nat)) (M:Nat->Nat->Prop):Prop:=∀ a b t,Wy W a b->M b t->M a t
def Ins (W:List (List Nat)):Prop:=∀ a b,Wy W a b->b<W.length
structure Ways (S:Sp) (n:Nat) (W:List (List Nat)):Prop where
 len:2 * n<=W.length
 mng:∃ M,Mng S n M/\vv W M
 fst:qjb S W S.rs.length
 bck:qes S n W S.rs.length
 st:Wy W (n+S.st) S.tk
 ins:Ins W
theorem Ways.got_fst {S:Sp} {n:Nat} {W:List (List Nat)} (h:Ways S n W) {x t:Nat} (hx:x<n) (hne:x≠S.tk) (ht:t<=S.tk) (hn:S.tk<n):Got W x t↔FstP S x t:=by
 obtain ⟨M,hM,hK⟩:=h.mng
 constructor
 ·intro hg
  have h1:M t t:=by
   rw [hM.sym t (by omega)]
   rcases Nat.lt_or_ge t S.tk with h2 | h2
   ·exact .inl (FstP.tok t h2)
   ·exact .inr ⟨by omega,by omega⟩
  rcases (hM.sym x hx t).1 (qfg hK hg h1) with h2 | h2
  ·exact h2
  ·exact absurd h2.1 hne
 ·intro hf
  refine hf (fun x t=>Got W x t) (fun x _=>Got.refl x) ?_
  intro i r x y a u v h0 hr hl he hu hg
  exact Got.head (h.fst i r x y u v h0 (List.getElem?_eq_some_iff.1 hr).1 hr hl he hu) hg
theorem Ways.got_fol {S:Sp} {n:Nat} {W:List (List Nat)} (h:Ways S n W) {x t:Nat} (hx:x<n) (ht:t<=S.tk) (hn:S.tk<n) (hr:∀ r∈S.rs,∀ y∈r.r,y<n/\y≠S.tk):Got W (n+x) t↔FolP S x t:=by
 obtain ⟨M,hM,hK⟩:=h.mng
 constructor
 ·intro hg
  have h1:M t t:=by
   rw [hM.sym t (by omega)]
   rcases Nat.lt_or_ge t S.tk with h2 | h2
   ·exact .inl (FstP.tok t h2)
   ·exact .inr ⟨by omega,by omega⟩
  exact (hM.fol x hx t).1 (qfg hK hg h1)
 ·intro hf
  refine hf (fun x t=>Got W (n+x) t) ((Got.refl _).step h.st) ?_ ?_
  ·intro i r x y a u v h0 hrr hl he hy hg
   obtain ⟨p,hp,hq⟩:=h.bck i r x y u v h0 (List.getElem?_eq_some_iff.1 hrr).1 hrr hl he hy
   obtain ⟨u',z,v',he',hu',hz⟩:=hg
   have hm:z∈r.r:=by rw [he,he'];simp
   have hzz:=hr r (List.mem_of_getElem? hrr) z hm
   exact Got.head hp (hq.first v p u' z v' he' hu' ((h.got_fst hzz.1 hzz.2 (Nat.le_of_lt hz.lt) hn).2 hz))
  ·intro i r x y a u v h0 hrr hl he hy hv hg
   obtain ⟨p,hp,hq⟩:=h.bck i r x y u v h0 (List.getElem?_eq_some_iff.1 hrr).1 hrr hl he hy
   exact Got.head hp (hq.last v p hv hg)
theorem Ways.got_end {S:Sp} {n:Nat} {W:List (List Nat)} (h:Ways S n W) {t:Nat} (ht:t<=S.tk) (hn:S.tk<n) (hno:∀ t,¬ FstP S S.tk t):Got W S.tk t↔t=S.tk:=by
 obtain ⟨M,hM,hK⟩:=h.mng
 constructor
 ·intro hg
  have h1:M t t:=by
   rw [hM.sym t (by omega)]
   rcases Nat.lt_or_ge t S.tk with h2 | h2
   ·exact .inl (FstP.tok t h2)
   ·exact .inr ⟨by omega,by omega⟩
  rcases (hM.sym S.tk hn t).1 (qfg hK hg h1) with h2 | h2
  ·exact absurd h2 (hno t)
  ·exact h2.2
 ·rintro rfl
  exact Got.refl _
theorem vn {l:List Nat} {k y:Nat} (h:l[k]?=some y):l.drop k=y :: l.drop (k+1):=by
 obtain ⟨h1,h2⟩:=List.getElem?_eq_some_iff.1 h
 rw [<-h2]
 exact List.drop_eq_getElem_cons h1
theorem qjn {l u v:List Nat} {y:Nat} (h:l=u++y :: v):l[u.length]?=some y/\l.drop (u.length+1)=v:=by
 subst h
 constructor
 ·rw [List.getElem?_append_right (Nat.le_refl _),Nat.sub_self];rfl
 ·rw [List.drop_append,List.drop_eq_nil_of_le (by omega)]
  have:u.length+1 - u.length=1:=by omega
  rw [this];rfl
def tot (W:List (List Nat)):Nat:=(W.map List.length).sum
theorem qcu {b:Nat}:∀ {W:List (List Nat)} {a:Nat} {l:List Nat},W[a]?=some l->tot (W.set a (l++[b]))=tot W+1
 | [],_,_,h=>by cases h
 | m :: W,0,l,h=>by
  cases h
  simp [tot]
  omega
 | m :: W,a+1,l,h=>by
  have ih:=qcu (b:=b) (W:=W) (a:=a) (l:=l) h
  simp only [tot,List.set_cons_succ,List.map_cons,List.sum_cons] at ih ⊢
  omega
theorem qfh (W:List (List Nat)) (m:List Nat):tot (W++[m])=tot W+m.length:=by
 simp [tot]
theorem qf4:∀ {W:List (List Nat)} {a:Nat} {l:List Nat},W[a]?=some l->l.length<=tot W
 | [],_,_,h=>by cases h
 | m :: W,0,l,h=>by cases h;simp [tot]
 | m :: W,a+1,l,h=>by
  have ih:=qf4 (W:=W) (a:=a) (l:=l) h
  simp only [tot,List.map_cons,List.sum_cons] at ih ⊢
  omega
theorem qet {W:List (List Nat)} {a b:Nat} {l:List Nat} (h:Ins W) (hl:W[a]?=some l) (hb:b<W.length):Ins (W.set a (l++[b])):=by
 intro x y hxy
 rw [List.length_set]
 rcases (qb0 hl x y).1 hxy with h1 | ⟨-,rfl⟩
 ·exact h x y h1
 ·exact hb
theorem qfi {W:List (List Nat)} {m:List Nat} (h:Ins W) (hm:∀ y∈m,y<W.length):Ins (W++[m]):=by
 intro x y hxy
 rw [List.length_append]
 rcases (qct x y).1 hxy with h1 | ⟨-,h1⟩
 ·have:=h x y h1;omega
 ·have:=hm y h1;omega
theorem qd8 {W:List (List Nat)} {M:Nat->Nat->Prop} {a b:Nat} {l:List Nat} (h:vv W M) (hl:W[a]?=some l) (hb:∀ t,M b t->M a t):vv (W.set a (l++[b])) M:=by
 intro x y t hxy hm
 rcases (qb0 hl x y).1 hxy with h1 | ⟨rfl,rfl⟩
 ·exact h x y t h1 hm
 ·exact hb t hm
theorem qnq (S:Sp) (n:Nat):(∃ M,Mng S n M/\vv (List.replicate (2 * n) []) M)/\Ins (List.replicate (2 * n) [])/\tot (List.replicate (2 * n) [])=0:=by
 have hno:∀ a b,¬ Wy (List.replicate (2 * n) []) a b:=by
  rintro a b ⟨l,hl,hb⟩
  have:=List.mem_of_getElem? hl
  rw [List.mem_replicate] at this
  rw [this.2] at hb
  cases hb
 refine ⟨⟨fun a t=>if a<n then FstP S a t\/(a=S.tk/\t=S.tk) else FolP S (a - n) t,⟨fun x hx t=>by rw [if_pos hx],fun x hx t=>?_⟩,fun a b t h=>absurd h (hno a b)⟩,fun a b h=>absurd h (hno a b),?_⟩
 ·have:¬ n+x<n:=by omega
  rw [if_neg this]
  have e:n+x - n=x:=by omega
  rw [e]
 ·unfold tot
  rw [List.map_replicate]
  simp
def vw (E:Nat->Prop) (l:List Nat) (k y:Nat):Prop:=∃ j,j<k/\l[j]?=some y/\∀ z∈l.take j,E z
theorem vw.step {E:Nat->Prop} {l:List Nat} {k:Nat} (hE:∀ z∈l.take k,E z) {y:Nat} (hy:l[k]?=some y) (x:Nat):vw E l (k+1) x↔vw E l k x\/x=y:=by
 constructor
 ·rintro ⟨j,h1,h2,h3⟩
  rcases Nat.lt_or_ge j k with h | h
  ·exact .inl ⟨j,h,h2,h3⟩
  ·have:j=k:=by omega
   subst this
   rw [hy] at h2
   cases h2
   exact .inr rfl
 ·rintro (⟨j,h1,h2,h3⟩ | rfl)
  ·exact ⟨j,by omega,h2,h3⟩
  ·exact ⟨k,by omega,hy,hE⟩
theorem vw.stop {E:Nat->Prop} {l:List Nat} {k y:Nat} (hy:l[k]?=some y) (hn:¬ E y) (x:Nat):vw E l l.length x↔vw E l (k+1) x:=by
 have hk:=(List.getElem?_eq_some_iff.1 hy).1
 constructor
 ·rintro ⟨j,h1,h2,h3⟩
  refine ⟨j,?_,h2,h3⟩
  rcases Nat.lt_or_ge k j with h | h
  ·refine absurd (h3 y ?_) hn
   rw [List.mem_take_iff_getElem]
   obtain ⟨h4,h5⟩:=List.getElem?_eq_some_iff.1 hy
   exact ⟨k,by omega,h5⟩
  ·omega
 ·rintro ⟨j,h1,h2,h3⟩
  exact ⟨j,by omega,h2,h3⟩
structure FA (S:Sp) (n x:Nat) (l:List Nat) (W0 W:List (List Nat)) (k:Nat):Prop where
 len:W.length=W0.length
 wy:∀ a b,Wy W a b↔Wy W0 a b\/(a=x/\vw (Nul S) l k b)
 ins:Ins W
 mng:∃ M,Mng S n M/\vv W M
 tot:tot W<=tot W0+k
theorem FA.begin {S:Sp} {n x:Nat} {l:List Nat} {W:List (List Nat)} (hi:Ins W) (hm:∃ M,Mng S n M/\vv W M):FA S n x l W W 0 :=
 ⟨rfl,fun a b=>⟨.inl,fun h=>h.elim id (fun ⟨_,j,h,_⟩=>absurd h (Nat.not_lt_zero _))⟩,hi,hm,by omega⟩
theorem FA.lay {S:Sp} {n x i:Nat} {r:SR} {W0 W:List (List Nat)} {k y:Nat} (h:FA S n x r.r W0 W k) (h0:0<i) (hr:S.rs[i]?=some r) (hx:r.l=(x:Int)) (hy:r.r[k]?=some y) (hyt:y≠S.tk) (hyn:y<n) (hxn:x<n) (hn:n<=W0.length) (hE:∀ z∈r.r.take k,Nul S z) {l:List Nat} (hl:W[x]?=some l):FA S n x r.r W0 (W.set x (l++[y])) (k+1):=by
 refine ⟨by rw [List.length_set];exact h.len,fun a b=>?_,qet h.ins hl (by rw [h.len];omega),?_,by rw [qcu hl];have:=h.tot;omega⟩
 ·rw [qb0 hl,h.wy,vw.step hE hy]
  constructor
  ·rintro ((h1 | ⟨h1,h2⟩) | ⟨h1,h2⟩)
   ·exact .inl h1
   ·exact .inr ⟨h1,.inl h2⟩
   ·exact .inr ⟨h1,.inr h2⟩
  ·rintro (h1 | ⟨h1,h2 | h2⟩)
   ·exact .inl (.inl h1)
   ·exact .inl (.inr ⟨h1,h2⟩)
   ·exact .inr ⟨h1,h2⟩
 ·obtain ⟨M,hM,hK⟩:=h.mng
  refine ⟨M,hM,qd8 hK hl (fun t ht=>?_)⟩
  rw [hM.sym y hyn] at ht
  rw [hM.sym x hxn]
  rcases ht with ht | ht
  ·refine .inl (FstP.rule i r x y t (r.r.take k) (r.r.drop (k+1)) h0 hr hx ?_ hE ht)
   rw [<-vn hy,List.take_append_drop]
  ·exact absurd ht.1 hyt
theorem FA.stop {S:Sp} {n x:Nat} {l:List Nat} {W0 W:List (List Nat)} {k y:Nat} (h:FA S n x l W0 W (k+1)) (hy:l[k]?=some y) (hn:¬ Nul S y):FA S n x l W0 W l.length:=by
 have hk:=(List.getElem?_eq_some_iff.1 hy).1
 refine ⟨h.len,fun a b=>?_,h.ins,h.mng,by have:=h.tot;omega⟩
 rw [h.wy,vw.stop hy hn]
theorem FA.laid {S:Sp} {n x i:Nat} {r:SR} {W0 W:List (List Nat)} (h:FA S n x r.r W0 W r.r.length) (hr:S.rs[i]?=some r) (hx:r.l=(x:Int)) (hF:qjb S W0 i):qjb S W (i+1):=by
 intro j q a b u v h0 hj hq ha he hu
 rw [h.wy]
 rcases Nat.lt_or_ge j i with h1 | h1
 ·exact .inl (hF j q a b u v h0 h1 hq ha he hu)
 ·have:j=i:=by omega
  subst this
  rw [hr] at hq
  cases hq
  rw [hx] at ha
  have hxa:x=a:=by omega
  subst hxa
  have hs:=qjn he
  refine .inr ⟨rfl,u.length,by rw [he];simp,hs.1,?_⟩
  have:r.r.take u.length=u:=by rw [he];simp
  rw [this]
  exact hu
theorem qg8 {S:Sp} {n:Nat} {W W':List (List Nat)} {i:Nat} (h:∀ a b,Wy W a b->Wy W' a b) (hB:qes S n W i):qes S n W' i:=by
 intro j r x y u v h0 hj hr hl he hy
 obtain ⟨p,h1,h2⟩:=hB j r x y u v h0 hj hr hl he hy
 exact ⟨p,h _ _ h1,Rest.mono h v p h2⟩
structure FB (S:Sp) (n x:Nat) (l:List Nat) (W0 W:List (List Nat)) (k p:Nat):Prop where
 up:∀ a b,Wy W0 a b->Wy W a b
 len:W0.length<=W.length
 ins:Ins W
 pl:p<W.length
 mng:∃ M,Mng S n M/\vv W M/\∀ t,M p t->LS S (l.drop k) x t
 rest:Rest (Nul S) W (n+x) (l.drop k) p
 laid:∀ j y,k<=j->l[j]?=some y->S.tk<y->∃ q,Wy W (n+y) q/\Rest (Nul S) W (n+x) (l.drop (j+1)) q
 tot:tot W+3 * k<=tot W0+3 * l.length
 lle:W.length+k<=W0.length+l.length
theorem FB.begin {S:Sp} {n x:Nat} {l:List Nat} {W:List (List Nat)} (hi:Ins W) (hm:∃ M,Mng S n M/\vv W M) (hx:x<n) (hn:2 * n<=W.length):FB S n x l W W l.length (n+x):=by
 obtain ⟨M,hM,hK⟩:=hm
 refine ⟨fun _ _ h=>h,Nat.le_refl _,hi,by omega,⟨M,hM,hK,fun t ht=>.inr ⟨by simp,(hM.fol x hx t).1 ht⟩⟩,?_,fun j y hj hy=>?_,by omega,by omega⟩
 ·simp [Rest]
 ·have:=(List.getElem?_eq_some_iff.1 hy).1;omega
structure FB1 (S:Sp) (n x:Nat) (l:List Nat) (W0 W:List (List Nat)) (k p y:Nat):Prop where
 up:∀ a b,Wy W0 a b->Wy W a b
 len:W0.length<=W.length
 ins:Ins W
 pl:p<W.length
 mng:∃ M,Mng S n M/\vv W M/\∀ t,M p t->LS S (l.drop (k+1)) x t
 rest:Rest (Nul S) W (n+x) (l.drop (k+1)) p
 laid:∀ j y,k<=j->l[j]?=some y->S.tk<y->∃ q,Wy W (n+y) q/\Rest (Nul S) W (n+x) (l.drop (j+1)) q
 at_:l[k]?=some y
 tot:tot W+3 * k+2<=tot W0+3 * l.length
 lle:W.length+k+1<=W0.length+l.length
theorem FB.skip {S:Sp} {n x:Nat} {l:List Nat} {W0 W:List (List Nat)} {k p y:Nat} (h:FB S n x l W0 W (k+1) p) (hy:l[k]?=some y) (hn:¬ S.tk<y):FB1 S n x l W0 W k p y:=by
 refine ⟨h.up,h.len,h.ins,h.pl,h.mng,h.rest,fun j z hj hz ht=>?_,hy,by have:=h.tot;omega,by have:=h.lle;omega⟩
 rcases Nat.lt_or_ge k j with h1 | h1
 ·exact h.laid j z h1 hz ht
 ·have:j=k:=by omega
  subst this
  rw [hy] at hz
  cases hz
  exact absurd ht hn
theorem FB.lay {S:Sp} {n x i:Nat} {r:SR} {W0 W:List (List Nat)} {k p y:Nat} (h:FB S n x r.r W0 W (k+1) p) (h0:0<i) (hr:S.rs[i]?=some r) (hx:r.l=(x:Int)) (hy:r.r[k]?=some y) (hyt:S.tk<y) (hyn:y<n) {m:List Nat} (hl:W[n+y]?=some m):FB1 S n x r.r W0 (W.set (n+y) (m++[p])) k p y:=by
 have hup:∀ a b,Wy W a b->Wy (W.set (n+y) (m++[p])) a b:=fun a b hw=>(qb0 hl a b).2 (.inl hw)
 have he:r.r=r.r.take k++y :: r.r.drop (k+1):=by rw [<-vn hy,List.take_append_drop]
 refine ⟨fun a b hw=>hup a b (h.up a b hw),by rw [List.length_set];exact h.len,qet h.ins hl h.pl,by rw [List.length_set];exact h.pl,?_,h.rest.mono hup _ _,fun j z hj hz ht=>?_,hy,by rw [qcu hl];have:=h.tot;omega,by rw [List.length_set];have:=h.lle;omega⟩
 ·obtain ⟨M,hM,hK,hp⟩:=h.mng
  refine ⟨M,hM,qd8 hK hl (fun t ht=>?_),hp⟩
  rw [hM.fol y hyn]
  rcases hp t ht with h1 | ⟨h1,h2⟩
  ·exact FolP.first i r x y t _ _ h0 hr hx he hyt h1
  ·exact FolP.last i r x y t _ _ h0 hr hx he hyt h1 h2
 ·rcases Nat.lt_or_ge k j with h1 | h1
  ·obtain ⟨q,h2,h3⟩:=h.laid j z h1 hz ht
   exact ⟨q,hup _ _ h2,h3.mono hup _ _⟩
  ·have:j=k:=by omega
   subst this
   rw [hy] at hz
   cases hz
   exact ⟨p,(qb0 hl _ _).2 (.inr ⟨rfl,rfl⟩),h.rest.mono hup _ _⟩
theorem FB1.sym {S:Sp} {n x:Nat} {l:List Nat} {W0 W:List (List Nat)} {k p y:Nat} (h:FB1 S n x l W0 W k p y) (hE:¬ Nul S y) (hyn:y<n) (hyt:y≠S.tk) (hn:n<=W0.length):FB S n x l W0 W k y:=by
 refine ⟨h.up,h.len,h.ins,by have:=h.len;omega,?_,?_,h.laid,by have:=h.tot;omega,by have:=h.lle;omega⟩
 ·obtain ⟨M,hM,hK,-⟩:=h.mng
  refine ⟨M,hM,hK,fun t ht=>?_⟩
  rw [hM.sym y hyn] at ht
  rw [vn h.at_]
  rcases ht with ht | ht
  ·exact .inl (qba.2 (.inl ht))
  ·exact absurd ht.1 hyt
 ·rw [vn h.at_]
  exact .inr ⟨hE,rfl⟩
theorem FB1.fork {S:Sp} {n x:Nat} {l:List Nat} {W0 W:List (List Nat)} {k p y:Nat} (h:FB1 S n x l W0 W k p y) (hE:Nul S y) (hyn:y<n) (hyt:y≠S.tk) (hn:2 * n<=W0.length):FB S n x l W0 (W++[[y,p]]) k W.length:=by
 have hlen:=h.len
 have hup:∀ a b,Wy W a b->Wy (W++[[y,p]]) a b:=fun a b hw=>(qct a b).2 (.inl hw)
 refine ⟨fun a b hw=>hup a b (h.up a b hw),by rw [List.length_append];omega,qfi h.ins (fun z hz=>?_),by simp,?_,?_,fun j z hj hz ht=>?_,by rw [qfh];have:=h.tot;simp;omega,by rw [List.length_append];have:=h.lle;simp;omega⟩
 ·rcases List.mem_cons.1 hz with rfl | hz
  ·omega
  ·rw [List.mem_singleton] at hz
   subst hz
   exact h.pl
 ·obtain ⟨M,hM,hK,hp⟩:=h.mng
  refine ⟨fun a t=>if a=W.length then LS S (l.drop k) x t else M a t,⟨fun z hz t=>?_,fun z hz t=>?_⟩,fun a b t hab=>?_,fun t=>?_⟩
  ·have:z≠W.length:=by omega
   rw [if_neg this]
   exact hM.sym z hz t
  ·have:n+z≠W.length:=by omega
   rw [if_neg this]
   exact hM.fol z hz t
  ·simp only
   rcases (qct a b).1 hab with h1 | ⟨rfl,h1⟩
   ·have hb:=h.ins a b h1
    have ha:a<W.length:=by obtain ⟨m,hm,-⟩:=h1;exact (List.getElem?_eq_some_iff.1 hm).1
    rw [if_neg (Nat.ne_of_lt hb),if_neg (Nat.ne_of_lt ha)]
    exact hK a b t h1
   ·rw [if_pos rfl,vn h.at_]
    rcases List.mem_cons.1 h1 with rfl | h1
    ·have:b≠W.length:=by omega
     rw [if_neg this,hM.sym b hyn]
     rintro (ht | ht)
     ·exact .inl (qba.2 (.inl ht))
     ·exact absurd ht.1 hyt
    ·rw [List.mem_singleton] at h1
     subst h1
     rw [if_neg (Nat.ne_of_lt h.pl)]
     intro ht
     rcases hp t ht with h1 | ⟨h1,h2⟩
     ·exact .inl (qba.2 (.inr ⟨hE,h1⟩))
     ·refine .inr ⟨fun z hz=>?_,h2⟩
      rcases List.mem_cons.1 hz with rfl | hz
      ·exact hE
      ·exact h1 z hz
  ·simp only [if_true]
   exact id
 ·rw [vn h.at_]
  exact .inl ⟨hE,p,(qct _ _).2 (.inr ⟨rfl,by simp⟩),(qct _ _).2 (.inr ⟨rfl,by simp⟩),h.rest.mono hup _ _⟩
 ·obtain ⟨q,h2,h3⟩:=h.laid j z hj hz ht
  exact ⟨q,hup _ _ h2,h3.mono hup _ _⟩
theorem FB.done {S:Sp} {n x i p:Nat} {r:SR} {W0 W:List (List Nat)} (h:FB S n x r.r W0 W 0 p) (hr:S.rs[i]?=some r) (hx:r.l=(x:Int)) (hB:qes S n W0 i):qes S n W (i+1):=by
 intro j q a b u v h0 hj hq ha he hb
 rcases Nat.lt_or_ge j i with h1 | h1
 ·exact qg8 h.up hB j q a b u v h0 h1 hq ha he hb
 ·have:j=i:=by omega
  subst this
  rw [hr] at hq
  cases hq
  rw [hx] at ha
  have hxa:x=a:=by omega
  subst hxa
  obtain ⟨h2,h3⟩:=qjn he
  obtain ⟨q,h4,h5⟩:=h.laid u.length b (Nat.zero_le _) h2 hb
  rw [h3] at h5
  exact ⟨q,h4,h5⟩
structure WI (S:Sp) (n:Nat) (W:List (List Nat)) (i:Nat):Prop where
 len:2 * n<=W.length
 mng:∃ M,Mng S n M/\vv W M
 fst:qjb S W i
 bck:qes S n W i
 ins:Ins W
 tot:tot W<=1000 * i
 lle:W.length<=2 * n+100 * i
theorem WI.begin (S:Sp) (n:Nat):WI S n (List.replicate (2 * n) []) 1:=by
 obtain ⟨h1,h2,h3⟩:=qnq S n
 exact ⟨by simp,h1,fun j r x y u v h0 hj=>by omega,fun j r x y u v h0 hj=>by omega,h2,by omega,by simp⟩
theorem WI.first {S:Sp} {n x i:Nat} {r:SR} {W0 W:List (List Nat)} (h:WI S n W0 i) (k:FA S n x r.r W0 W r.r.length):(∃ M,Mng S n M/\vv W M)/\Ins W/\2 * n<=W.length:=⟨k.mng,k.ins,by rw [k.len];exact h.len⟩
theorem WI.next {S:Sp} {n x i p:Nat} {r:SR} {W0 W1 W:List (List Nat)} (h:WI S n W0 i) (k:FA S n x r.r W0 W1 r.r.length) (q:FB S n x r.r W1 W 0 p) (hr:S.rs[i]?=some r) (hx:r.l=(x:Int)) (hrl:r.r.length<=100):WI S n W (i+1):=by
 have h1:=k.laid hr hx h.fst
 have h2:=k.tot
 have h3:=q.tot
 have h4:=q.lle
 have h5:=h.tot
 have h6:=h.lle
 have h7:=k.len
 have h8:=q.len
 have h9:=h.len
 refine ⟨by omega,?_,?_,?_,q.ins,by omega,by omega⟩
 ·obtain ⟨M,hM,hK,-⟩:=q.mng
  exact ⟨M,hM,hK⟩
 ·intro j r x y u v g0 gj gr gl ge gu
  exact q.up _ _ (h1 j r x y u v g0 gj gr gl ge gu)
 ·exact q.done hr hx (qg8 (fun a b hw=>(k.wy a b).2 (.inl hw)) h.bck)
theorem WI.done {S:Sp} {n:Nat} {W:List (List Nat)} (h:WI S n W S.rs.length) (hs:S.st<n) (ht:S.tk<n) (hno:∀ t,¬ FstP S S.tk t) {l:List Nat} (hl:W[n+S.st]?=some l):Ways S n (W.set (n+S.st) (l++[S.tk])):=by
 have hup:∀ a b,Wy W a b->Wy (W.set (n+S.st) (l++[S.tk])) a b:=fun a b hw=>(qb0 hl a b).2 (.inl hw)
 have hlen:=h.len
 refine ⟨by rw [List.length_set];exact h.len,?_,?_,qg8 hup h.bck,(qb0 hl _ _).2 (.inr ⟨rfl,rfl⟩),qet h.ins hl (by omega)⟩
 ·obtain ⟨M,hM,hK⟩:=h.mng
  refine ⟨M,hM,qd8 hK hl (fun t hm=>?_)⟩
  rw [hM.fol _ hs]
  rcases (hM.sym _ ht t).1 hm with h1 | h1
  ·exact absurd h1 (hno t)
  ·rw [h1.2]
   exact FolP.start
 ·intro j r x y u v g0 gj gr gl ge gu
  exact hup _ _ (h.fst j r x y u v g0 gj gr gl ge gu)
def IsL (m:Nat) (P:Nat->Prop) (l:List Nat):Prop:=∃ b:Nat->Bool,(∀ t,t<m->(b t=true↔P t))/\l=(List.range m).filter b
theorem IsL.uni {m:Nat} {P:Nat->Prop} {l l':List Nat} (h:IsL m P l) (k:IsL m P l'):l=l':=by
 obtain ⟨b,h1,rfl⟩:=h
 obtain ⟨c,h2,rfl⟩:=k
 refine List.filter_congr (fun t ht=>?_)
 have ht:=List.mem_range.1 ht
 have:=(h1 t ht).trans (h2 t ht).symm
 cases hb:b t <;> cases hc:c t <;> simp_all
theorem IsL.congr {m:Nat} {P Q:Nat->Prop} {l:List Nat} (h:IsL m P l) (k:∀ t,t<m->(P t↔Q t)):IsL m Q l:=by
 obtain ⟨b,h1,rfl⟩:=h
 exact ⟨b,fun t ht=>(h1 t ht).trans (k t ht),rfl⟩
theorem IsL.up {m m':Nat} {P:Nat->Prop} {l:List Nat} (h:IsL m P l) (hm:m<=m') (k:∀ t,P t->t<m):IsL m' P l:=by
 obtain ⟨b,h1,rfl⟩:=h
 refine ⟨fun t=>b t && decide (t<m),fun t ht=>?_,?_⟩
 ·rw [Bool.and_eq_true,decide_eq_true_eq]
  constructor
  ·rintro ⟨h2,h3⟩;exact (h1 t h3).1 h2
  ·intro h2;exact ⟨(h1 t (k t h2)).2 h2,k t h2⟩
 ·obtain ⟨d,rfl⟩:∃ d,m'=m+d:=⟨m' - m,by omega⟩
  rw [List.range_add,List.filter_append]
  have h2:List.filter (fun t=>b t && decide (t<m)) ((List.range d).map (fun x=>m+x))=[]:=by
   rw [List.filter_eq_nil_iff]
   intro a ha
   obtain ⟨x,-,rfl⟩:=List.mem_map.1 ha
   simp
  rw [h2,List.append_nil]
  refine List.filter_congr (fun t ht=>?_)
  have:=List.mem_range.1 ht
  simp [this]
def upTo (b:Nat->Bool) (k:Nat):List Nat:=(List.range k).filter b
theorem qnr (b:Nat->Bool) (k:Nat):upTo b (k+1)=if b k then upTo b k++[k] else upTo b k:=by
 unfold upTo
 rw [List.range_succ,List.filter_append]
 cases h:b k <;> simp [h]
def un:List (List Nat)->List Bool->Nat
 | [],_=>0
 | _ :: _,[]=>0
 | l :: W,b :: s=>(if b then 0 else l.length)+un W s
theorem qns:∀ (W:List (List Nat)),un W (List.replicate W.length false)=tot W
 | []=>rfl
 | l :: W=>by
  have ih:=qns W
  simp only [un,tot,List.length_cons,List.replicate_succ,List.map_cons,List.sum_cons] at ih ⊢
  simp [ih]
theorem qnt:∀ {W:List (List Nat)} {s:List Bool} {x:Nat} {l:List Nat},s.length=W.length->W[x]?=some l->isF s x=false->un W (s.set x true)+l.length=un W s
 | [],_,_,_,_,h,_=>by cases h
 | _ :: _,[],_,_,hl,_,_=>by cases hl
 | m :: W,b :: s,0,l,_,h,hf=>by
  cases h
  have:b=false:=by simpa [isF] using hf
  subst this
  simp [un]
  omega
 | m :: W,b :: s,x+1,l,hl,h,hf=>by
  have ih:=qnt (W:=W) (s:=s) (x:=x) (l:=l) (by simpa using hl) (by simpa using h) (by simpa [isF] using hf)
  simp only [un,List.set_cons_succ]
  omega
structure Dfs (W:List (List Nat)) (frm:List Nat) (seen:List Bool) (todo:List Nat):Prop where
 len:seen.length=W.length
 ins:∀ x∈todo,x<W.length
 snd:∀ x,isF seen x=true\/x∈todo->∃ a∈frm,Got W a x
 beg:∀ a∈frm,isF seen a=true\/a∈todo
 clo:∀ x y,isF seen x=true->Wy W x y->isF seen y=true\/y∈todo
 siz:todo.length+un W seen<=frm.length+tot W
theorem qjo (n x:Nat):isF (List.replicate n false) x=false:=by
 cases h:isF (List.replicate n false) x with
 | false=>rfl
 | true =>
  unfold isF at h
  cases hq:(List.replicate n false)[x]? with
  | none=>rw [hq] at h;cases h
  | some b =>
   rw [hq] at h
   have:=List.mem_of_getElem? hq
   rw [List.mem_replicate] at this
   rw [this.2] at h
   cases h
theorem Dfs.begin {W:List (List Nat)} {frm:List Nat} (h:∀ x∈frm,x<W.length):Dfs W frm (List.replicate W.length false) frm :=
 ⟨by simp,h,fun x hx=>hx.elim (fun h=>by rw [qjo] at h;cases h) (fun h=>⟨x,h,Got.refl x⟩),fun a ha=>.inr ha,(fun x y h=>by rw [qjo] at h;cases h),by rw [qns];exact Nat.le_refl _⟩
theorem Dfs.pass {W:List (List Nat)} {frm:List Nat} {seen:List Bool} {t:List Nat} {x:Nat} (h:Dfs W frm seen (t++[x])) (hx:isF seen x=true):Dfs W frm seen t/\t.length+un W seen<(t++[x]).length+un W seen:=by
 have key:∀ y,isF seen y=true\/y∈t++[x]->isF seen y=true\/y∈t:=by
  rintro y (hy | hy)
  ·exact .inl hy
  ·rcases List.mem_append.1 hy with hy | hy
   ·exact .inr hy
   ·rw [List.mem_singleton] at hy;subst hy;exact .inl hx
 refine ⟨⟨h.len,fun y hy=>h.ins y (by simp [hy]),fun y hy=>h.snd y (hy.imp id (fun h=>by simp [h])),fun a ha=>key a (h.beg a ha),fun y z hy hw=>key z (h.clo y z hy hw),?_⟩,by simp⟩
 have:=h.siz
 simp at this
 omega
theorem Dfs.take {W:List (List Nat)} {frm:List Nat} {seen:List Bool} {t l:List Nat} {x:Nat} (h:Dfs W frm seen (t++[x])) (hI:Ins W) (hx:isF seen x=false) (hl:W[x]?=some l):Dfs W frm (seen.set x true) (t++l)/\(t++l).length+un W (seen.set x true)<(t++[x]).length+un W seen:=by
 have hxl:x<seen.length:=by rw [h.len];exact (List.getElem?_eq_some_iff.1 hl).1
 have hu:=qnt h.len hl hx
 have hW:∀ y,y∈l->Wy W x y:=fun y hy=>⟨l,hl,hy⟩
 obtain ⟨a0,ha0,hg0⟩:=h.snd x (.inr (by simp))
 have key:∀ y,isF seen y=true\/y∈t++[x]->isF (seen.set x true) y=true\/y∈t++l:=by
  rintro y (hy | hy)
  ·exact .inl (qbz hxl hy)
  ·rcases List.mem_append.1 hy with hy | hy
   ·exact .inr (List.mem_append_left _ hy)
   ·rw [List.mem_singleton] at hy;subst hy
    exact .inl (by rw [k8 hxl,if_pos rfl])
 refine ⟨⟨by rw [List.length_set];exact h.len,fun y hy=>?_,fun y hy=>?_,fun a ha=>key a (h.beg a ha),fun y z hy hw=>?_,?_⟩,by simp;omega⟩
 ·rcases List.mem_append.1 hy with hy | hy
  ·exact h.ins y (by simp [hy])
  ·exact hI x y (hW y hy)
 ·rcases hy with hy | hy
  ·rw [k8 hxl] at hy
   split at hy
   ·subst_vars;exact ⟨a0,ha0,hg0⟩
   ·exact h.snd y (.inl hy)
  ·rcases List.mem_append.1 hy with hy | hy
   ·exact h.snd y (.inr (by simp [hy]))
   ·exact ⟨a0,ha0,hg0.step (hW y hy)⟩
 ·rw [k8 hxl] at hy
  split at hy
  ·subst_vars
   obtain ⟨m,hm,hz⟩:=hw
   rw [hl] at hm
   cases hm
   exact .inr (List.mem_append_right _ hz)
  ·exact key z (h.clo y z hy hw)
 ·have:=h.siz
  simp at this ⊢
  omega
theorem Dfs.done {W:List (List Nat)} {frm:List Nat} {seen:List Bool} (h:Dfs W frm seen []) (x:Nat):isF seen x=true↔∃ a∈frm,Got W a x:=by
 constructor
 ·intro hx;exact h.snd x (.inl hx)
 ·rintro ⟨a,ha,hg⟩
  have h1:∀ y,isF seen y=true\/y∈[]->isF seen y=true:=fun y hy=>hy.elim id (fun h=>by cases h)
  exact hg (fun y=>isF seen y=true) (h1 a (h.beg a ha)) (fun y z hy hw=>h1 z (h.clo y z hy hw))
theorem Dfs.told {W:List (List Nat)} {frm:List Nat} {seen:List Bool} (h:Dfs W frm seen []) {tk:Nat} (ht:tk<W.length):IsL (tk+1) (fun t=>∃ a∈frm,Got W a t) (upTo (fun x=>isF seen x && decide (x<=tk)) W.length):=by
 have h0:IsL (tk+1) (fun t=>∃ a∈frm,Got W a t) (upTo (fun x=>isF seen x) (tk+1)):=⟨fun x=>isF seen x,fun t _=>h.done t,rfl⟩
 have h1:IsL W.length (fun t=>(∃ a∈frm,Got W a t)/\t<=tk) (upTo (fun x=>isF seen x) (tk+1)):=(h0.congr (fun t ht=>⟨fun h=>⟨h,by omega⟩,fun h=>h.1⟩)).up (by omega) (fun t h=>by omega)
 have h2:IsL W.length (fun t=>(∃ a∈frm,Got W a t)/\t<=tk) (upTo (fun x=>isF seen x && decide (x<=tk)) W.length):=⟨_,fun t _=>by rw [Bool.and_eq_true,decide_eq_true_eq,h.done],rfl⟩
 rw [h2.uni h1]
 exact h0
end Go.Proofs.YtngclmglmhiljaaGreatDoor
