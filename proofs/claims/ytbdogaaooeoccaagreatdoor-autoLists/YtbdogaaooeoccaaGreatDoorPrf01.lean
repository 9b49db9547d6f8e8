/- Texts that the proofs of the Auto statements stand on, part Prf01. -/
import Derived.Test.YtbdogaaooeoccaaGreatDoorRows
import Derived.WalkKit
import Derived.Below
import Derived.WalkSpells
import Derived.WalkLawsBesides
import Derived.Laws.BytesArg
import Derived.Laws.Strings3
import Derived.Laws.DeepStrings4
import Derived.Lib.AppendStr
import Derived.Lib.Strings
import Derived.Lib.Walk
import Derived.Lib.Bytealg
import Derived.Deep.CutBlock
import Derived.Deep.DeepCutAuto
import Derived.BigQuiet
import Derived.Deep.LoopGhost
import Derived.Lib.BufferWrite
import Derived.Lib.UnsafeStr
import Derived.Laws.MakeOwn
import Derived.Lib.AppendZeros
set_option maxHeartbeats 16000000
set_option maxRecDepth 100000
namespace Go.Proofs.YtbdogaaooeoccaaGreatDoor
def bt (l:List UInt8) (i:Nat):Int:=((l[i]?.getD 0).toNat:Int)
def isL (c:Int):Bool:=(decide (97<=c) && decide (c<=122)) || (decide (65<=c) && decide (c<=90)) || (c == 95)
def isD (c:Int):Bool:=decide (48<=c) && decide (c<=57)
def isN (c:Int):Bool:=isL c || isD c
def isB (c:Int):Bool:=c == 32 || c == 9 || c == 10
def isS (c:Int):Bool:=c == 58 || c == 124 || c == 59
def noNl (c:Int):Bool:=c != 10
def j7 (p:Int->Bool):List UInt8->Nat
 | []=>0
 | b :: r=>if p (b.toNat:Int)=true then j7 p r+1 else 0
def runEnd (p:Int->Bool) (l:List UInt8) (i:Nat):Nat:=i+j7 p (l.drop i)
theorem qew{l:List UInt8}{i:Nat}(h:i<l.length):∃b,l.drop i=b :: l.drop (i+1)/\bt l i=(b.toNat:Int) :=
 ⟨l[i],List.drop_eq_getElem_cons h,by unfold bt;rw[List.getElem?_eq_getElem h];rfl⟩
theorem ji{p:Int->Bool}{l:List UInt8}{i:Nat}(h:i<l.length)(a:p (bt l i)=true):runEnd p l i=runEnd p l (i+1):=by
 obtain⟨b,hd,c⟩:=qew h;unfold runEnd;rw[hd];rw[c]at a;simp only[j7,a,if_true];omega
theorem qcs{p:Int->Bool}{l:List UInt8}{i:Nat}(h:i<l.length)(a:p (bt l i)=false):runEnd p l i=i:=by
 obtain⟨b,hd,c⟩:=qew h;unfold runEnd;rw[hd];rw[c]at a;simp[j7,a]
theorem qdb{p:Int->Bool}{l:List UInt8}{i:Nat}(h:l.length<=i):runEnd p l i=i:=by
 unfold runEnd;rw[List.drop_eq_nil_of_le h];rfl
theorem qab(p:Int->Bool)(l:List UInt8)(i:Nat):i<=runEnd p l i:=Nat.le_add_right _ _
theorem qd8(p:Int->Bool):∀l:List UInt8,j7 p l<=l.length
 | []=>Nat.le_refl _
 | b :: r=>by
  unfold j7
  split
  ·have:=qd8 p r;simp;omega
  ·simp
theorem vd{p:Int->Bool}{l:List UInt8}{i:Nat}(h:i<=l.length):runEnd p l i<=l.length:=by
 unfold runEnd;have:=qd8 p (l.drop i);rw[List.length_drop]at this;omega
def pre2 (x y:Int) (l:List UInt8) (i:Nat):Bool:=decide (i+1<l.length) && (bt l i == x) && (bt l (i+1) == y)
def je:Nat->List UInt8->Nat->Nat
 | 0,_,i=>i
 | f+1,l,i=>if i<l.length then (if isB (bt l i)=true then je f l (i+1) else if pre2 47 47 l i=true then je f l (runEnd noNl l i) else i) else i
def skip (l:List UInt8) (i:Nat):Nat:=je (l.length+1) l i
theorem qp8{f:Nat}{l:List UInt8}{i:Nat}(h:l.length<=i):je f l i=i:=by
 cases f with
 | zero=>rfl
 | succ f=>unfold je;rw[if_neg (by omega)]
theorem qnb{f:Nat}{l:List UInt8}{i:Nat}(h:i<l.length)(a:isB (bt l i)=true):je (f+1) l i=je f l (i+1):=by
 rw[je,if_pos h,if_pos a]
theorem qof{f:Nat}{l:List UInt8}{i:Nat}(h:i<l.length)(a:isB (bt l i)=false)(b:pre2 47 47 l i=true):je (f+1) l i=je f l (runEnd noNl l i):=by
 rw[je,if_pos h,if_neg (by simp[a]),if_pos b]
theorem qog{f:Nat}{l:List UInt8}{i:Nat}(a:isB (bt l i)=false)(b:pre2 47 47 l i=false):je f l i=i:=by
 cases f with
 | zero=>rfl
 | succ f =>
  rw[je,if_neg (c:=isB (bt l i)=true) (by simp[a]),if_neg (c:=pre2 47 47 l i=true) (by simp[b])]
  split <;> rfl
theorem qh0{l:List UInt8}{i:Nat}(b:pre2 47 47 l i=true):i<l.length/\i+1<=runEnd noNl l i:=by
 simp only[pre2,Bool.and_eq_true,decide_eq_true_eq,beq_iff_eq]at b
 have a:i<l.length:=by omega
 rw[ji a (by rw[b.1.2];rfl)]
 exact⟨a,qab _ _ _⟩
theorem qfm{l:List UInt8}:∀(f i:Nat),i<=l.length->i<=je f l i/\je f l i<=l.length
 | 0,i,h=>⟨Nat.le_refl _,h⟩
 | f+1,i,h=>by
  rw[je]
  split
  ·split
   ·have:=qfm (l:=l) f (i+1) (by omega);omega
   ·split
    ·rename_i hp;have a:=qh0 hp;have:=qfm f (runEnd noNl l i) (vd h);omega
    ·omega
  ·omega
theorem qmf{l:List UInt8}{i:Nat}(h:i<=l.length):i<=skip l i/\skip l i<=l.length:=qfm _ _ h
def nameP (l:List UInt8) (i:Nat):Nat × Nat:=if 12<runEnd isN l i - i then (0,i) else (1,runEnd isN l i)
def vr (l:List UInt8) (i e:Nat):Bool:=decide (4<e - i) || (decide (1<e - i) && (bt l i == 48)) || (decide (e<l.length) && isL (bt l e))
def numberP (l:List UInt8) (i:Nat):Nat × Nat:=if vr l i (runEnd isD l i)=true then (0,i) else (2,runEnd isD l i)
def vh:List (List UInt8):=[[116,111,107,101,110],[108,101,102,116],[114,105,103,104,116],[110,111,110,97,115,115,111,99],[115,116,97,114,116],[101,120,112,101,99,116],[112,114,101,99]]
def part (l:List UInt8) (i e:Nat):List UInt8:=(l.drop i).take (e - i)
def keyP (l:List UInt8) (i:Nat):Nat × Nat :=
 if pre2 37 37 l i=true then (4,i+2) else if vh.contains (part l (i+1) (runEnd isN l (i+1)))=true then (4,runEnd isN l (i+1)) else (0,i)
def wordP (l:List UInt8) (i:Nat):Nat × Nat :=
 if isL (bt l i)=true then nameP l i else if isD (bt l i)=true then numberP l i else if (bt l i == 37)=true then keyP l i else if isS (bt l i)=true then (3,i+1) else (0,i)
theorem qdc{l:List UInt8}{i:Nat}(h:isL (bt l i)=true):wordP l i=nameP l i:=by unfold wordP;rw[if_pos h]
theorem qd9{l:List UInt8}{i:Nat}(h:isL (bt l i)=false)(a:isD (bt l i)=true):wordP l i=numberP l i:=by
 unfold wordP;rw[if_neg (by simp[h]),if_pos a]
theorem qea{l:List UInt8}{i:Nat}(h:isL (bt l i)=false)(a:isD (bt l i)=false)(b:(bt l i == 37)=true):wordP l i=keyP l i:=by
 unfold wordP;rw[if_neg (by simp[h]),if_neg (by simp[a]),if_pos b]
theorem qdd{l:List UInt8}{i:Nat}(h:isL (bt l i)=false)(a:isD (bt l i)=false)(b:(bt l i == 37)=false)(c:isS (bt l i)=true):wordP l i=(3,i+1):=by
 unfold wordP;rw[if_neg (by simp[h]),if_neg (by simp[a]),if_neg (by simp[b]),if_pos c]
theorem qde{l:List UInt8}{i:Nat}(h:isL (bt l i)=false)(a:isD (bt l i)=false)(b:(bt l i == 37)=false)(c:isS (bt l i)=false):wordP l i=(0,i):=by
 unfold wordP;rw[if_neg (by simp[h]),if_neg (by simp[a]),if_neg (by simp[b]),if_neg (by simp[c])]
theorem qe7{l:List UInt8}{i:Nat}(h:i<l.length):i<=(wordP l i).2/\(wordP l i).2<=l.length/\((wordP l i).1≠0->i<(wordP l i).2)/\(wordP l i).1<=4:=by
 have k:runEnd isN l (i+1)<=l.length:=vd (by omega);have j:runEnd isD l (i+1)<=l.length:=vd (by omega);have g:=qab isN l (i+1);have f:=qab isD l (i+1)
 by_cases a:isL (bt l i)=true
 ·rw[qdc a];have e:=ji (p:=isN) h (by unfold isN;rw[a];rfl)
  unfold nameP
  split <;> simp <;> omega
 ·have a:isL (bt l i)=false:=by simpa using a
  by_cases b:isD (bt l i)=true
  ·rw[qd9 a b];have e:=ji (p:=isD) h b;unfold numberP
   split <;> simp <;> omega
  ·have b:isD (bt l i)=false:=by simpa using b
   by_cases c:(bt l i == 37)=true
   ·rw[qea a b c];unfold keyP
    split
    ·rename_i hp;simp only[pre2,Bool.and_eq_true,decide_eq_true_eq]at hp;simp;omega
    ·split <;> simp <;> omega
   ·have c:(bt l i == 37)=false:=by simpa using c
    by_cases d:isS (bt l i)=true
    ·rw[qdd a b c d];simp;omega
    ·rw[qde a b c (by simpa using d)];simp;omega
def jv:Nat->List UInt8->Nat->List (Nat × Nat × Nat)->List (Nat × Nat × Nat) × Int
 | 0,_,_,a=>(a,-2)
 | f+1,l,i,a=>if i<l.length then (if (wordP l i).1=0 then ([],(i:Int)) else jv f l (skip l (wordP l i).2) (a++[((wordP l i).1,i,(wordP l i).2)])) else (a++[(5,l.length,l.length)],-1)
def scan (l:List UInt8):List (Nat × Nat × Nat) × Int:=jv (l.length+1) l (skip l 0) []
theorem qjr{f:Nat}{l:List UInt8}{i:Nat}{a:List (Nat × Nat × Nat)}(h:l.length<=i):jv (f+1) l i a=(a++[(5,l.length,l.length)],-1):=by
 rw[jv,if_neg (by omega)]
theorem qjs{f:Nat}{l:List UInt8}{i:Nat}{a:List (Nat × Nat × Nat)}(h:i<l.length)(b:(wordP l i).1=0):jv (f+1) l i a=([],(i:Int)):=by
 rw[jv,if_pos h,if_pos b]
theorem qh1{f:Nat}{l:List UInt8}{i:Nat}{a:List (Nat × Nat × Nat)}(h:i<l.length)(b:(wordP l i).1≠0):
  jv (f+1) l i a=jv f l (skip l (wordP l i).2) (a++[((wordP l i).1,i,(wordP l i).2)]):=by
 rw[jv,if_pos h,if_neg b]
def nameOk (l:List UInt8):Bool:=!(l == []) && isL (bt l 0) && (((runEnd isN l 0:Nat):Int) == (l.length:Int)) && decide ((l.length:Int)<=12)
def dg:Nat->Nat->List UInt8->List UInt8
 | 0,_,t=>t
 | f+1,n,t=>if n / 10=0 then UInt8.ofNat (48+n % 10) :: t else dg f (n / 10) (UInt8.ofNat (48+n % 10) :: t)
theorem qf9{p:Int->Bool}{l:List UInt8}:∀(k i:Nat),i+k=l.length->(∀j,i<=j->j<l.length->p (bt l j)=true)->runEnd p l i=l.length
 | 0,i,h,_=>by rw[qdb (by omega)];omega
 | k+1,i,h,ha=>by
  rw[ji (by omega) (ha i (Nat.le_refl _) (by omega))];exact qf9 k (i+1) (by omega) (fun j b a=>ha j (by omega) a)
theorem qh2{p:Int->Bool}{l:List UInt8}:∀(k i:Nat),i+k=l.length->runEnd p l i=l.length->∀j,i<=j->j<l.length->p (bt l j)=true
 | 0,i,h,_,j,h1,h2=>by omega
 | k+1,i,h,he,j,h1,h2=>by
  have b:i<l.length:=by omega
  by_cases a:p (bt l i)=true
  ·rw[ji b a]at he
   rcases Nat.eq_or_lt_of_le h1 with e | h1
   ·rw[<-e];exact a
   ·exact qh2 k (i+1) (by omega) he j h1 h2
  ·rw[qcs b (by simpa using a)]at he;omega
end Go.Proofs.YtbdogaaooeoccaaGreatDoor
namespace Go.Proofs.YtbdogaaooeoccaaGreatDoor
open Go.RowKit
theorem hid{p:Prop}(h:p):Hid p:=h
theorem hid2{a b:Prop}(c:a)(d:b):Hid (a/\b):=⟨c,d⟩
theorem hid3{a b c:Prop}(d:a)(f:b)(g:c):Hid (a/\b/\c):=⟨d,f,g⟩
theorem hid4{a b c d:Prop}(f:a)(g:b)(h:c)(i:d):Hid (a/\b/\c/\d):=⟨f,g,h,i⟩
theorem hid5{a b c d e:Prop}(f:a)(g:b)(h:c)(i:d)(j:e):Hid (a/\b/\c/\d/\e):=⟨f,g,h,i,j⟩
theorem hid6{a b c d e f:Prop}(g:a)(h:b)(i:c)(j:d)(k:e)(l:f):Hid (a/\b/\c/\d/\e/\f):=⟨g,h,i,j,k,l⟩
theorem Tryz.info5:(Tryz.prog.info? 5).map (fun i=>(i.zero,i.size,i.bytes))=some (some (.int .u8 0),1,1):=by kernel_rfl
def by8 (s:ByteArray):List UInt8:=s.data.toList
theorem zf(s:ByteArray):(by8 s).length=s.size:=by unfold by8;rw[Array.length_toList];rfl
theorem ja(s:ByteArray):s.toList=by8 s:=ByteArray.toList_eq s
theorem qun(s:ByteArray)(i:Nat)(h:i<s.size):(((s[i]'h).toNat:Nat):Int)=bt (by8 s) i:=by
 unfold bt by8;have a:i<s.data.size:=h;rw[Array.getElem?_toList,Array.getElem?_eq_getElem a];rfl
theorem jb(s:ByteArray)(i:Nat)(h:i<s.size)(W:World):(Instr.index 9 (.string s) (.int .i64 (i:Int))).run Tryz.prog W=.ok (.int .u8 (bt (by8 s) i)) W:=by
 rw[run_index_string W 9 s .i64 (i:Int) Tryz.underlying9,dif_pos ⟨by omega,by omega⟩];rw[<-qun s i h];rfl
theorem kg(c:Int)(w:World):Calls Tryz.prog 168 #[.int .u8 c] w fun e h=>e=.returned (.bool (isL c))/\h=w:=by
 by_cases b:97<=c
 ·by_cases f:c<=122
  ·have H:Hid (isL c=true):=by show _=_;unfold isL;simp[b,f]
   go_enter Tryz.func168,Tryz.ntmps168;go_wp2;go_ret;exact⟨by rw[H.out];rfl,rfl⟩
  ·have H:Hid (isL c=false):=by show _=_;unfold isL;simp;omega
   have d:65<=c:=by omega
   have a:¬c<=90:=by omega
   have g:(c == 95)=false:=by simp;omega
   go_enter Tryz.func168,Tryz.ntmps168;go_wp2;go_ret;exact⟨by rw[H.out];rfl,rfl⟩
 ·by_cases d:65<=c
  ·by_cases a:c<=90
   ·have H:Hid (isL c=true):=by show _=_;unfold isL;simp[d,a]
    go_enter Tryz.func168,Tryz.ntmps168;go_wp2;go_ret;exact⟨by rw[H.out];rfl,rfl⟩
   ·have H:Hid (isL c=(c == 95)):=by show _=_;unfold isL;simp[b,a]
    generalize isL c=r at H;go_enter Tryz.func168,Tryz.ntmps168;go_wp2;go_ret;exact⟨by rw[H.out];rfl,rfl⟩
  ·have H:Hid (isL c=false):=by show _=_;unfold isL;simp;omega
   have g:(c == 95)=false:=by simp;omega
   go_enter Tryz.func168,Tryz.ntmps168;go_wp2;go_ret;exact⟨by rw[H.out];rfl,rfl⟩
theorem jj(c:Int)(w:World):Calls Tryz.prog 184 #[.int .u8 c] w fun e b=>e=.returned (.bool (isD c))/\b=w:=by
 by_cases a:48<=c
 ·have H:Hid (isD c=decide (c<=57)):=by show _=_;unfold isD;simp[a]
  go_enter Tryz.func184,Tryz.ntmps184;go_wp2;go_ret;exact⟨by rw[H.out];rfl,rfl⟩
 ·have H:Hid (isD c=false):=by show _=_;unfold isD;simp[a]
  go_enter Tryz.func184,Tryz.ntmps184;go_wp2;go_ret;exact⟨by rw[H.out];rfl,rfl⟩
theorem qac(c:Int)(w:World):Calls Tryz.prog 59 #[.int .u8 c] w fun e h=>e=.returned (.bool (isL c))/\h=w:=by
 by_cases b:97<=c
 ·by_cases f:c<=122
  ·have H:Hid (isL c=true):=by show _=_;unfold isL;simp[b,f]
   go_enter Tryz.func59,Tryz.ntmps59;go_wp2;go_ret;exact⟨by rw[H.out];rfl,rfl⟩
  ·have H:Hid (isL c=false):=by show _=_;unfold isL;simp;omega
   have d:65<=c:=by omega
   have a:¬c<=90:=by omega
   have g:(c == 95)=false:=by simp;omega
   go_enter Tryz.func59,Tryz.ntmps59;go_wp2;go_ret;exact⟨by rw[H.out];rfl,rfl⟩
 ·by_cases d:65<=c
  ·by_cases a:c<=90
   ·have H:Hid (isL c=true):=by show _=_;unfold isL;simp[d,a]
    go_enter Tryz.func59,Tryz.ntmps59;go_wp2;go_ret;exact⟨by rw[H.out];rfl,rfl⟩
   ·have H:Hid (isL c=(c == 95)):=by show _=_;unfold isL;simp[b,a]
    generalize isL c=r at H;go_enter Tryz.func59,Tryz.ntmps59;go_wp2;go_ret;exact⟨by rw[H.out];rfl,rfl⟩
  ·have H:Hid (isL c=false):=by show _=_;unfold isL;simp;omega
   have g:(c == 95)=false:=by simp;omega
   go_enter Tryz.func59,Tryz.ntmps59;go_wp2;go_ret;exact⟨by rw[H.out];rfl,rfl⟩
theorem qeb(c:Int)(w:World):Calls Tryz.prog 60 #[.int .u8 c] w fun e b=>e=.returned (.bool (isD c))/\b=w:=by
 by_cases a:48<=c
 ·have H:Hid (isD c=decide (c<=57)):=by show _=_;unfold isD;simp[a]
  go_enter Tryz.func60,Tryz.ntmps60;go_wp2;go_ret;exact⟨by rw[H.out];rfl,rfl⟩
 ·have H:Hid (isD c=false):=by show _=_;unfold isD;simp[a]
  go_enter Tryz.func60,Tryz.ntmps60;go_wp2;go_ret;exact⟨by rw[H.out];rfl,rfl⟩
theorem qbi(s:ByteArray)(i:Nat)(w:World)(n:i<=s.size)(p:s.size<=1048576):
  Calls Tryz.prog 169 #[.string s,.int .i64 i] w fun e j=>e=.returned (.int .i64 (runEnd isN (by8 s) i))/\j=w:=by
 go_enter Tryz.func169,Tryz.ntmps169;go_wp2
 go_loop [1] (fun v=>∃k:Nat,k<=s.size/\v=.int .i64 k/\Hid (runEnd isN (by8 s) i=runEnd isN (by8 s) k)) (fun v=>s.size - (intOf v).toNat)
 case atStart=>exact⟨i,n,rfl,rfl⟩
 case round =>
  obtain⟨k,o,rfl,a⟩:=hrel
  by_cases l:k<s.size
  ·have m:=jb s k l
   have h:k<(by8 s).length:=by rw[zf];exact l
   obtain⟨c,f⟩:∃c,c=bt (by8 s) k:=⟨_,rfl⟩
   rw[<-f]at m
   by_cases b:isL c=true
   ·have d:Hid (runEnd isN (by8 s) i=runEnd isN (by8 s) (k+1)):=by
     show _=_;rw[a.out,ji h (by unfold isN;rw[<-f,b];rfl)]
    clear a h f;go_wp2_with(go_at_call 168;refine(kg _ _).mono ?_;rintro e j ⟨rfl,rfl⟩;rw[b])
    go_round
    case rel=>exact⟨k+1,by omega,by go_num,d⟩
    case measure=>simp[intOf];omega
   ·have b:isL c=false:=by simpa using b
    by_cases g:isD c=true
    ·have d:Hid (runEnd isN (by8 s) i=runEnd isN (by8 s) (k+1)):=by
      show _=_;rw[a.out,ji h (by unfold isN;rw[<-f,b,g];rfl)]
     clear a h f;go_wp2_with(first | (go_at_call 168;refine(kg _ _).mono ?_;rintro e j ⟨rfl,rfl⟩;rw[b]) | (go_at_call 184;refine(jj _ _).mono ?_;rintro e j ⟨rfl,rfl⟩;rw[g]))
     go_round
     case rel=>exact⟨k+1,by omega,by go_num,d⟩
     case measure=>simp[intOf];omega
    ·have g:isD c=false:=by simpa using g
     have d:Hid (runEnd isN (by8 s) i=k):=by
      show _=_;rw[a.out,qcs h (by unfold isN;rw[<-f,b,g];rfl)]
     clear a h f;go_wp2_with(first | (go_at_call 168;refine(kg _ _).mono ?_;rintro e j ⟨rfl,rfl⟩;rw[b]) | (go_at_call 184;refine(jj _ _).mono ?_;rintro e j ⟨rfl,rfl⟩;rw[g]))
     go_ret;exact⟨by rw[d.out];rfl,rfl⟩
  ·have d:Hid (runEnd isN (by8 s) i=k):=by
    show _=_;rw[a.out,qdb (by rw[zf];omega)]
   clear a;go_wp2;go_ret;exact⟨by rw[d.out];rfl,rfl⟩
def begB (a b:ByteArray):Bool:=decide ((b.size:Int)<=(a.size:Int)) && ((a.extract 0 b.size).toList == b.toList)
theorem qhc(a b:ByteArray)(w:World):Calls Tryz.prog 210 #[.string a,.string b] w fun e c=>e=.returned (.bool (begB a b))/\c=w:=by
 by_cases h:(b.size:Int)<=(a.size:Int)
 ·have H:Hid (begB a b=((a.extract 0 b.size).toList == b.toList)):=by show _=_;unfold begB;simp[h]
  go_enter Tryz.func210,Tryz.ntmps210;go_wp2;go_ret;exact⟨by rw[H.out];rfl,rfl⟩
 ·have H:Hid (begB a b=false):=by show _=_;unfold begB;simp[h]
  go_enter Tryz.func210,Tryz.ntmps210;go_wp2;go_ret;exact⟨by rw[H.out];rfl,rfl⟩
theorem qec(a b:ByteArray)(w:World):Calls Tryz.prog 186 #[.string a,.string b] w fun e c=>e=.returned (.bool (begB a b))/\c=w:=by
 go_enter Tryz.func186,Tryz.ntmps186;go_wp2_with(go_at_call 210;refine(qhc _ _ _).mono ?_;rintro e c ⟨rfl,rfl⟩)
 go_ret;exact⟨rfl,rfl⟩
theorem qe6(s:ByteArray)(c:Int)(w:World):
  Calls Tryz.prog 223 #[.string s,.int .u8 c] w fun e a=>e=.returned (.int .i64 (Lib.indexByte s.data.toList c.toNat.toUInt8))/\a=w:=by
 go_enter Tryz.func223,Tryz.ntmps223;go_wp2;rw[run_callFunc_extern Tryz.func232 (by kernel_rfl) (by kernel_rfl) (by kernel_rfl) (e:=Extern.BytealgIndexByte.indexByte) (by kernel_rfl),Lib.run_indexByteString];simp only[Result.andThen];rw[Oper.upon_value];go_wp2;go_ret;exact⟨rfl,rfl⟩
theorem qga(s:ByteArray)(c:Int)(w:World):
  Calls Tryz.prog 211 #[.string s,.int .u8 c] w fun e a=>e=.returned (.int .i64 (Lib.indexByte s.data.toList c.toNat.toUInt8))/\a=w:=by
 go_enter Tryz.func211,Tryz.ntmps211;go_wp2_with(go_at_call 223;refine(qe6 _ _ _).mono ?_;rintro e a ⟨rfl,rfl⟩)
 go_ret;exact⟨rfl,rfl⟩
theorem kw(s:ByteArray)(a b:Nat):by8 (s.extract a b)=part (by8 s) a b:=by
 have:=ByteArray.extract_mk (by8 s) a b
 have e:ByteArray.mk (by8 s).toArray=s:=by unfold by8;simp
 rw[e]at this;rw[this];unfold by8 part;simp
theorem qjt(l:List UInt8)(i:Nat):part l i l.length=l.drop i:=by
 unfold part;exact List.take_of_length_le (by simp)
theorem qju(s:ByteArray)(i:Nat)(x y:UInt8)(p:i<s.size):begB (s.extract i s.size) ⟨#[x,y]⟩=pre2 (x.toNat:Int) (y.toNat:Int) (by8 s) i:=by
 have r:i<(by8 s).length:=by rw[zf];exact p
 obtain⟨b,hd,o⟩:=qew r
 have g:by8 (s.extract i s.size)=(by8 s).drop i:=by rw[kw,<-zf s,qjt]
 have k:((s.extract i s.size).size:Int)=((by8 s).length - i:Nat):=by rw[<-zf,g,List.length_drop]
 have l:((s.extract i s.size).extract 0 2).toList=((by8 s).drop i).take 2:=by rw[ja,kw,g];rfl
 have m:(ByteArray.mk #[x,y]).toList=[x,y]:=by rw[ja];rfl
 have n:(ByteArray.mk #[x,y]).size=2:=rfl;unfold begB pre2;rw[n,k,l,m,hd,o]
 by_cases h:i+1<(by8 s).length
 ·obtain⟨b',f,d⟩:=qew h;rw[f,d]
  have j:((2:Nat):Int)<=(((by8 s).length - i:Nat):Int):=by omega
  simp only[j,h,decide_true,Bool.true_and,List.take_succ_cons,List.take_zero]
  have q:∀a c:UInt8,((a.toNat:Int) == (c.toNat:Int))=(a == c):=by
   intro a c;rw[Bool.eq_iff_iff];simp only[beq_iff_eq]
   constructor
   ·intro h;exact UInt8.toNat_inj.1 (by omega)
   ·intro h;rw[h]
  rw[q,q];simp only[List.cons_beq_cons]
  cases (b == x) <;> cases (b' == y) <;> rfl
 ·have j:¬((2:Nat):Int)<=(((by8 s).length - i:Nat):Int):=by omega
  simp[h];intro t;omega
theorem qed:∀l:List UInt8,(Lib.indexByte l 10=-1/\j7 noNl l=l.length)\/(0<=Lib.indexByte l 10/\(j7 noNl l:Int)=Lib.indexByte l 10)
 | []=>.inl ⟨rfl,rfl⟩
 | b :: r=>by
  unfold Lib.indexByte j7
  by_cases h:b=10
  ·subst h;right;simp[noNl]
  ·have a:(b == 10)=false:=by simpa using h
   have c:noNl (b.toNat:Int)=true:=by
    unfold noNl;simp only[bne_iff_ne,ne_eq];intro e;exact h (UInt8.toNat_inj.1 (by show b.toNat=10;omega))
   rw[a,c]
   rcases qed r with ⟨e1,e2⟩ | ⟨e1,e2⟩
   ·left;simp[e1,e2]
   ·right
    have:(Lib.indexByte r 10 == -1)=false:=by simp;omega
    simp[this];omega
theorem qix(s:ByteArray)(i:Nat)(w:World)(p:i<=s.size)(q:s.size<=1048576):
  Calls Tryz.prog 187 #[.string s,.int .i64 i] w fun e h=>e=.returned (.int .i64 (runEnd noNl (by8 s) i))/\h=w:=by
 have j:(s.extract i s.size).data.toList=(by8 s).drop i:=by
  have:by8 (s.extract i s.size)=(by8 s).drop i:=by rw[kw,<-zf s,qjt]
  exact this
 have g:=qed ((by8 s).drop i);have b:=qd8 noNl ((by8 s).drop i);rw[List.length_drop,zf]at b
 have c:=fun W=>qga (s.extract i s.size) 10 W
 rw[j]at c;have k:(10:Int).toNat.toUInt8=10:=rfl;rw[k]at c;generalize l:Lib.indexByte ((by8 s).drop i) 10=n at c g
 have f:Hid (((runEnd noNl (by8 s) i:Nat):Int)=if n=-1 then (s.size:Int) else i+n):=by
  show _=_;unfold runEnd
  rcases g with ⟨h1,h2⟩ | ⟨h1,h2⟩
  ·rw[if_pos h1,h2,List.length_drop,zf];omega
  ·rw[if_neg (by omega)];omega
 generalize runEnd noNl (by8 s) i=R at f ⊢;have d:=hid c;clear c j k
 rcases g with ⟨h1,h2⟩ | ⟨h1,h2⟩
 ·have m:¬0<=n:=by omega
  have a:Hid ((R:Int)=s.size):=by have:=f.out;rwa [if_pos h1]at this
  clear f h2 b l h1;go_enter Tryz.func187,Tryz.ntmps187;go_wp2_with(go_at_call 211;refine(d.out _).mono ?_;rintro e h ⟨rfl,rfl⟩)
  go_ret;exact⟨by rw[a.out];rfl,rfl⟩
 ·have a:Hid ((R:Int)=i+n):=by have:=f.out;rwa [if_neg (by omega)]at this
  have o:(i:Int)+n<=1048576:=by omega
  clear f h2 b l;go_enter Tryz.func187,Tryz.ntmps187;go_wp2_with(go_at_call 211;refine(d.out _).mono ?_;rintro e h ⟨rfl,rfl⟩)
  go_ret;exact⟨by rw[a.out];rfl,rfl⟩
theorem qoh{c:Int}(h:isB c=true):(c == 32)=true\/((c == 32)=false/\(c == 9)=true)\/((c == 32)=false/\(c == 9)=false/\(c == 10)=true):=by
 unfold isB at h
 cases a:(c == 32) <;> cases b:(c == 9) <;> cases d:(c == 10) <;> simp_all
theorem qp9{c:Int}(h:isB c=false):(c == 32)=false/\(c == 9)=false/\(c == 10)=false:=by
 unfold isB at h
 cases a:(c == 32) <;> cases b:(c == 9) <;> cases d:(c == 10) <;> simp_all
theorem qgb(s:ByteArray)(i:Nat)(w:World)(B:i<=s.size)(E:s.size<=1048576):
  Calls Tryz.prog 174 #[.string s,.int .i64 i] w fun e q=>e=.returned (.int .i64 (skip (by8 s) i))/\q=w:=by
 have t:=hid (zf s);go_enter Tryz.func174,Tryz.ntmps174;go_wp2
 go_loop [1] (fun v=>∃k f:Nat,k<=s.size/\v=.int .i64 k/\s.size<k+f/\Hid (skip (by8 s) i=je f (by8 s) k)) (fun v=>s.size - (intOf v).toNat)
 case atStart=>exact⟨i,s.size+1,B,rfl,by omega,by show _=_;unfold skip;rw[t.out]⟩
 case round =>
  obtain⟨k,f,C,rfl,G,l⟩:=hrel
  by_cases p:k<s.size
  ·have u:=jb s k p
   have r:k<(by8 s).length:=by rw[t.out];exact p
   obtain⟨f,rfl⟩:∃g,f=g+1:=⟨f - 1,by omega⟩
   have b:=fun W=>qec (s.extract k s.size) ⟨#[47,47]⟩ W
   rw[qju s k 47 47 p]at b;have d:((47:UInt8).toNat:Int)=47:=rfl;rw[d]at b
   obtain⟨c,o⟩:∃c,c=bt (by8 s) k:=⟨_,rfl⟩
   rw[<-o]at u
   by_cases a:isB c=true
   ·have j:Hid (skip (by8 s) i=je f (by8 s) (k+1)):=by
     show _=_;rw[l.out,qnb r (by rw[<-o];exact a)]
    have a:=qoh a;clear l r o b d
    rcases a with a | ⟨a,z⟩ | ⟨a,z,A⟩
    all_goals
     go_wp2
     go_round
     case rel=>exact⟨k+1,f,by omega,by go_num,by omega,j⟩
     case measure=>simp[intOf];omega
   ·have a:isB c=false:=by simpa using a
    obtain⟨z,A,F⟩:=qp9 a
    by_cases h:pre2 47 47 (by8 s) k=true
    ·have j:Hid (skip (by8 s) i=je f (by8 s) (runEnd noNl (by8 s) k)):=by
      show _=_;rw[l.out,qof r (by rw[<-o];exact a) h]
     have D:=(qh0 h).2
     have x:runEnd noNl (by8 s) k<=s.size:=by rw[<-t.out];exact vd (by omega)
     rw[h]at b;have n:=hid b
     have y:Hid (∀W:World,Calls Tryz.prog 187 #[.string s,.int .i64 k] W fun e q=>e=.returned (.int .i64 (runEnd noNl (by8 s) k))/\q=W):=fun W=>qix s k W C E
     generalize runEnd noNl (by8 s) k=m at j D x y;clear l r o b d a h;go_wp2_with(first | (go_at_call 186;refine(n.out _).mono ?_;rintro e q ⟨rfl,rfl⟩) | (go_at_call 187;refine(y.out _).mono ?_;rintro e q ⟨rfl,rfl⟩))
     go_round
     case rel=>exact⟨m,f,by omega,by go_num,by omega,j⟩
     case measure=>simp[intOf];omega
    ·have h:pre2 47 47 (by8 s) k=false:=by simpa using h
     have j:Hid (skip (by8 s) i=k):=by
      show _=_;rw[l.out,qog (by rw[<-o];exact a) h]
     rw[h]at b;have n:=hid b;clear l r o b d a h;go_wp2_with(go_at_call 186;refine(n.out _).mono ?_;rintro e q ⟨rfl,rfl⟩)
     go_ret;exact⟨by rw[j.out];rfl,rfl⟩
  ·have j:Hid (skip (by8 s) i=k):=by
    show _=_;rw[l.out,qp8 (by rw[t.out];omega)]
   clear l;go_wp2;go_ret;exact⟨by rw[j.out];rfl,rfl⟩
def ansW (p:Nat × Nat):Ending:=.returned (.tuple #[.int .i64 p.1,.int .i64 p.2])
theorem qnc(s:ByteArray)(i:Nat)(w:World)(f:i<=s.size)(l:s.size<=1048576):
  Calls Tryz.prog 188 #[.string s,.int .i64 i] w fun e c=>e=ansW (nameP (by8 s) i)/\c=w:=by
 have d:Hid (∀W:World,Calls Tryz.prog 169 #[.string s,.int .i64 i] W fun e c=>e=.returned (.int .i64 (runEnd isN (by8 s) i))/\c=W):=fun W=>qbi s i W f l
 have g:=qab isN (by8 s) i
 have j:runEnd isN (by8 s) i<=s.size:=by rw[<-zf];exact vd (by rw[zf];exact f)
 have b:Hid (nameP (by8 s) i=if 12<runEnd isN (by8 s) i - i then (0,i) else (1,runEnd isN (by8 s) i)):=rfl;generalize runEnd isN (by8 s) i=m at d g j b;generalize nameP (by8 s) i=p at b
 by_cases h:12<m - i
 ·have k:(12:Int)<(m:Int) - i:=by omega
  have a:Hid (p=(0,i)):=by have:=b.out;rwa [if_pos h]at this
  clear b h;go_enter Tryz.func188,Tryz.ntmps188;go_wp2_with(go_at_call 169;refine(d.out _).mono ?_;rintro e c ⟨rfl,rfl⟩)
  go_ret2;exact⟨by rw[a.out];rfl,rfl⟩
 ·have k:¬(12:Int)<(m:Int) - i:=by omega
  have a:Hid (p=(1,m)):=by have:=b.out;rwa [if_neg h]at this
  clear b h;go_enter Tryz.func188,Tryz.ntmps188;go_wp2_with(go_at_call 169;refine(d.out _).mono ?_;rintro e c ⟨rfl,rfl⟩)
  go_ret2;exact⟨by rw[a.out];rfl,rfl⟩
theorem qlm{l:List UInt8}{i m:Nat}(h:4<m - i):vr l i m=true:=by unfold vr;simp[h]
theorem qln{l:List UInt8}{i m:Nat}(h:1<m - i)(a:(bt l i == 48)=true):vr l i m=true:=by unfold vr;simp[h];simp_all
theorem qlo{l:List UInt8}{i m:Nat}(h:m<l.length)(a:isL (bt l m)=true):vr l i m=true:=by unfold vr;simp[h,a]
theorem qgc{l:List UInt8}{i m:Nat}(h:¬4<m - i)(a:¬1<m - i\/(bt l i == 48)=false)(b:¬m<l.length\/isL (bt l m)=false):vr l i m=false:=by
 unfold vr
 rcases a with a | a <;> rcases b with b | b <;> simp[h,a,b]
theorem qjv(s:ByteArray)(i:Nat)(w:World)(G:i<s.size)(J:s.size<=1048576):
  Calls Tryz.prog 189 #[.string s,.int .i64 i] w fun e x=>e=ansW (numberP (by8 s) i)/\x=w:=by
 have B:=hid (zf s);have E:=qab isD (by8 s) i
 have F:runEnd isD (by8 s) i<=s.size:=by rw[<-zf];exact vd (by rw[zf];omega)
 have l:Hid (numberP (by8 s) i=if vr (by8 s) i (runEnd isD (by8 s) i)=true then (0,i) else (2,runEnd isD (by8 s) i)):=rfl
 obtain⟨m,u⟩:∃m,Hid (runEnd isD (by8 s) i=m):=⟨_,rfl⟩
 rw[u.out]at E F l;generalize numberP (by8 s) i=p at l;go_enter Tryz.func189,Tryz.ntmps189
 go_upto_block 0 with fail
 go_cut [5] (fun s5 wd=>s5=.int .i64 m/\wd=w)
 case first =>
  go_wp2_with fail
  go_loop [5] (fun v=>∃j:Nat,i<=j/\j<=s.size/\v=.int .i64 j/\Hid (runEnd isD (by8 s) j=m)) (fun v=>s.size - (intOf v).toNat)
  case atStart=>exact⟨i,Nat.le_refl _,by omega,rfl,u⟩
  case round =>
   obtain⟨j,H,I,rfl,y⟩:=hrel
   by_cases t:j<s.size
   ·have g:=jb s j t
    have D:j<(by8 s).length:=by rw[B.out];exact t
    obtain⟨d,hd⟩:∃d,d=bt (by8 s) j:=⟨_,rfl⟩
    rw[<-hd]at g
    by_cases f:isD d=true
    ·have z:Hid (runEnd isD (by8 s) (j+1)=m):=by
      show _=_;rw[<-y.out];exact(ji D (by rw[<-hd];exact f)).symm
     clear hd y;go_wp2_with(go_at_call 184;refine(jj _ _).mono ?_;rintro e x ⟨rfl,rfl⟩;rw[f])
     go_round
     case rel=>exact⟨j+1,by omega,by omega,by go_num,z⟩
     case measure=>simp[intOf];omega
    ·have f:isD d=false:=by simpa using f
     have z:Hid (m=j):=by
      show _=_;rw[<-y.out,qcs D (by rw[<-hd];exact f)]
     clear hd y;go_wp2_with(go_at_call 184;refine(jj _ _).mono ?_;rintro e x ⟨rfl,rfl⟩;rw[f])
     go_meet;exact⟨by rw[z.out],rfl⟩
   ·have z:Hid (m=j):=by
     show _=_;rw[<-y.out,qdb (by rw[B.out];omega)]
    clear y;go_wp2;go_meet;exact⟨by rw[z.out],rfl⟩
 case rest =>
  obtain⟨rfl,rfl⟩:=hcut;have g:=jb s i G
  by_cases o:4<m - i
  ·have a:Hid (p=(0,i)):=by have:=l.out;rwa [if_pos (qlm o)]at this
   have C:(4:Int)<(m:Int) - i:=by omega
   clear l o u g;go_wp2_with fail;go_ret2;exact⟨by rw[a.out];rfl,rfl⟩
  ·by_cases q:1<m - i/\(bt (by8 s) i == 48)=true
   ·have a:Hid (p=(0,i)):=by have:=l.out;rwa [if_pos (qln q.1 q.2)]at this
    have C:¬(4:Int)<(m:Int) - i:=by omega
    have b:(1:Int)<(m:Int) - i:=by omega
    have A:=q.2;clear l o u q;generalize bt (by8 s) i=c at g A;go_wp2_with fail;go_ret2;exact⟨by rw[a.out];rfl,rfl⟩
   ·have b:¬1<m - i\/(1<m - i/\(bt (by8 s) i == 48)=false):=by
     by_cases h:1<m - i
     ·exact .inr ⟨h,by simpa [h] using q⟩
     ·exact .inl h
    have n:=b.imp id And.right
    have C:¬(4:Int)<(m:Int) - i:=by omega
    by_cases A:m<s.size
    ·have r:=jb s m A
     have k:m<(by8 s).length:=by rw[B.out];exact A
     by_cases f:isL (bt (by8 s) m)=true
     ·have a:Hid (p=(0,i)):=by have:=l.out;rwa [if_pos (qlo k f)]at this
      clear l o u q n k;generalize bt (by8 s) m=d at r f;generalize bt (by8 s) i=c at g b
      rcases b with b | ⟨b,h10⟩
      ·have b:¬(1:Int)<(m:Int) - i:=by omega
       go_wp2_with(go_at_call 168;refine(kg _ _).mono ?_;rintro e x ⟨rfl,rfl⟩;rw[f])
       go_ret2;exact⟨by rw[a.out];rfl,rfl⟩
      ·have b:(1:Int)<(m:Int) - i:=by omega
       go_wp2_with(go_at_call 168;refine(kg _ _).mono ?_;rintro e x ⟨rfl,rfl⟩;rw[f])
       go_ret2;exact⟨by rw[a.out];rfl,rfl⟩
     ·have f:isL (bt (by8 s) m)=false:=by simpa using f
      have a:Hid (p=(2,m)):=by have:=l.out;rwa [qgc o n (.inr f),if_neg (by simp)]at this
      clear l o u q n k;generalize bt (by8 s) m=d at r f;generalize bt (by8 s) i=c at g b
      rcases b with b | ⟨b,h10⟩
      ·have b:¬(1:Int)<(m:Int) - i:=by omega
       go_wp2_with(go_at_call 168;refine(kg _ _).mono ?_;rintro e x ⟨rfl,rfl⟩;rw[f])
       go_ret2;exact⟨by rw[a.out];rfl,rfl⟩
      ·have b:(1:Int)<(m:Int) - i:=by omega
       go_wp2_with(go_at_call 168;refine(kg _ _).mono ?_;rintro e x ⟨rfl,rfl⟩;rw[f])
       go_ret2;exact⟨by rw[a.out];rfl,rfl⟩
    ·have k:¬m<(by8 s).length:=by rw[B.out];exact A
     have a:Hid (p=(2,m)):=by have:=l.out;rwa [qgc o n (.inl k),if_neg (by simp)]at this
     clear l o u q n k;generalize bt (by8 s) i=c at g b
     rcases b with b | ⟨b,h10⟩
     ·have b:¬(1:Int)<(m:Int) - i:=by omega
      go_wp2_with fail;go_ret2;exact⟨by rw[a.out];rfl,rfl⟩
     ·have b:(1:Int)<(m:Int) - i:=by omega
      go_wp2_with fail;go_ret2;exact⟨by rw[a.out];rfl,rfl⟩
theorem qoi(t:List UInt8):(vh.contains t=true/\(((t == [116,111,107,101,110])=true)\/((t == [116,111,107,101,110])=false/\(t == [108,101,102,116])=true)\/((t == [116,111,107,101,110])=false/\(t == [108,101,102,116])=false/\(t == [114,105,103,104,116])=true)\/((t == [116,111,107,101,110])=false/\(t == [108,101,102,116])=false/\(t == [114,105,103,104,116])=false/\(t == [110,111,110,97,115,115,111,99])=true)\/((t == [116,111,107,101,110])=false/\(t == [108,101,102,116])=false/\(t == [114,105,103,104,116])=false/\(t == [110,111,110,97,115,115,111,99])=false/\(t == [115,116,97,114,116])=true)\/((t == [116,111,107,101,110])=false/\(t == [108,101,102,116])=false/\(t == [114,105,103,104,116])=false/\(t == [110,111,110,97,115,115,111,99])=false/\(t == [115,116,97,114,116])=false/\(t == [101,120,112,101,99,116])=true)\/((t == [116,111,107,101,110])=false/\(t == [108,101,102,116])=false/\(t == [114,105,103,104,116])=false/\(t == [110,111,110,97,115,115,111,99])=false/\(t == [115,116,97,114,116])=false/\(t == [101,120,112,101,99,116])=false/\(t == [112,114,101,99])=true)))\/(vh.contains t=false/\(t == [116,111,107,101,110])=false/\(t == [108,101,102,116])=false/\(t == [114,105,103,104,116])=false/\(t == [110,111,110,97,115,115,111,99])=false/\(t == [115,116,97,114,116])=false/\(t == [101,120,112,101,99,116])=false/\(t == [112,114,101,99])=false):=by
 have e:vh.contains t=((t == [116,111,107,101,110]) || (t == [108,101,102,116]) || (t == [114,105,103,104,116]) || (t == [110,111,110,97,115,115,111,99]) || (t == [115,116,97,114,116]) || (t == [101,120,112,101,99,116]) || (t == [112,114,101,99])):=by
  unfold vh;simp only[List.contains_cons,List.contains_nil,Bool.or_false,Bool.or_assoc]
 rw[e]
 cases a:(t == [116,111,107,101,110])
 case true=>simp
 cases b:(t == [108,101,102,116])
 case true=>simp
 cases c:(t == [114,105,103,104,116])
 case true=>simp
 cases d:(t == [110,111,110,97,115,115,111,99])
 case true=>simp
 cases f:(t == [115,116,97,114,116])
 case true=>simp
 cases g:(t == [101,120,112,101,99,116])
 case true=>simp
 cases h:(t == [112,114,101,99])
 case true=>simp
 simp
theorem qoj(s:ByteArray)(i:Nat)(w:World)(z:i<s.size)(A:s.size<=1048576):
  Calls Tryz.prog 190 #[.string s,.int .i64 i] w fun e f=>e=ansW (keyP (by8 s) i)/\f=w:=by
 have C:=hid (zf s)
 have c:=fun W=>qec (s.extract i s.size) ⟨#[37,37]⟩ W
 rw[qju s i 37 37 z]at c;have n:((37:UInt8).toNat:Int)=37:=rfl;rw[n]at c
 have t:Hid (∀W:World,Calls Tryz.prog 169 #[.string s,.int .i64 ((i:Int)+1)] W fun e f=>e=.returned (.int .i64 (runEnd isN (by8 s) (i+1)))/\f=W):=fun W=>by
  have:=qbi s (i+1) W (by omega) A
  simpa using this
 have x:=qab isN (by8 s) (i+1)
 have y:runEnd isN (by8 s) (i+1)<=s.size:=by rw[<-zf];exact vd (by rw[zf];omega)
 have k:Hid (keyP (by8 s) i=if pre2 37 37 (by8 s) i=true then (4,i+2) else if vh.contains (part (by8 s) (i+1) (runEnd isN (by8 s) (i+1)))=true then (4,runEnd isN (by8 s) (i+1)) else (0,i)):=rfl;generalize runEnd isN (by8 s) (i+1)=m at t x y k;generalize keyP (by8 s) i=p at k;clear n
 by_cases d:pre2 37 37 (by8 s) i=true
 ·have a:Hid (p=(4,i+2)):=by have:=k.out;rwa [if_pos d]at this
  rw[d]at c;have b:=hid c;clear c k d;go_enter Tryz.func190,Tryz.ntmps190;go_wp2_with(go_at_call 186;refine(b.out _).mono ?_;rintro e f ⟨rfl,rfl⟩)
  go_ret2;exact⟨by rw[a.out];rfl,rfl⟩
 ·have d:pre2 37 37 (by8 s) i=false:=by simpa using d
  have a:Hid (p=if vh.contains (part (by8 s) (i+1) m)=true then (4,m) else (0,i)):=by have:=k.out;rwa [d,if_neg (by simp)]at this
  rw[d]at c;have b:=hid c;clear c k d
  have q:(s.extract (i+1) m).toList=part (by8 s) (i+1) m:=by rw[ja,kw]
  have h:=qoi (part (by8 s) (i+1) m)
  rcases h with ⟨h4,h⟩ | ⟨h4,h⟩
  ·have g:Hid (p=(4,m)):=by have:=a.out;rwa [if_pos h4]at this
   rw[<-q]at h;clear a h4 q
   rcases h with j | ⟨j,l⟩ | ⟨j,l,o⟩ | ⟨j,l,o,r⟩ | ⟨j,l,o,r,u⟩ | ⟨j,l,o,r,u,v⟩ | ⟨j,l,o,r,u,v,B⟩
   all_goals
    go_enter Tryz.func190,Tryz.ntmps190;go_wp2_with(first | (go_at_call 186;refine(b.out _).mono ?_;rintro e f ⟨rfl,rfl⟩) | (go_at_call 169;refine(t.out _).mono ?_;rintro e f ⟨rfl,rfl⟩))
    go_ret2;exact⟨by rw[g.out];rfl,rfl⟩
  ·have g:Hid (p=(0,i)):=by have:=a.out;rwa [h4,if_neg (by simp)]at this
   rw[<-q]at h;clear a h4 q;obtain⟨j,l,o,r,u,v,B⟩:=h;go_enter Tryz.func190,Tryz.ntmps190;go_wp2_with(first | (go_at_call 186;refine(b.out _).mono ?_;rintro e f ⟨rfl,rfl⟩) | (go_at_call 169;refine(t.out _).mono ?_;rintro e f ⟨rfl,rfl⟩))
   go_ret2;exact⟨by rw[g.out];rfl,rfl⟩
theorem qa2{B:Nat}{a w:World}(h:Below B a w)(n:Nat):Below B a (w.drewN n):=⟨h.os,h.tape,h.output,h.size,h.block⟩
theorem qd{w w1 w2:World}(h:Below w.heap.size w w1)(k:Below w1.heap.size w1 w2):Below w.heap.size w w2:=h.trans (k.mono h.size)
theorem qok{c:Int}(h:isS c=true):(c == 58)=true\/((c == 58)=false/\(c == 124)=true)\/((c == 58)=false/\(c == 124)=false/\(c == 59)=true):=by
 unfold isS at h
 cases a:(c == 58) <;> cases b:(c == 124) <;> cases d:(c == 59) <;> simp_all
theorem qqa{c:Int}(h:isS c=false):(c == 58)=false/\(c == 124)=false/\(c == 59)=false:=by
 unfold isS at h
 cases a:(c == 58) <;> cases b:(c == 124) <;> cases d:(c == 59) <;> simp_all
theorem qnd(s:ByteArray)(i:Nat)(w:World)(o:i<s.size)(q:s.size<=1048576):
  Calls Tryz.prog 175 #[.string s,.int .i64 i] w fun e a=>e=ansW (wordP (by8 s) i)/\a=w:=by
 have h:=jb s i o
 have m:Hid (∀W:World,Calls Tryz.prog 188 #[.string s,.int .i64 i] W fun e a=>e=ansW (nameP (by8 s) i)/\a=W):=fun W=>qnc s i W (by omega) q
 have k:Hid (∀W:World,Calls Tryz.prog 189 #[.string s,.int .i64 i] W fun e a=>e=ansW (numberP (by8 s) i)/\a=W):=fun W=>qjv s i W o q
 have l:Hid (∀W:World,Calls Tryz.prog 190 #[.string s,.int .i64 i] W fun e a=>e=ansW (keyP (by8 s) i)/\a=W):=fun W=>qoj s i W o q
 by_cases d:isL (bt (by8 s) i)=true
 ·have b:=hid (qdc d);generalize wordP (by8 s) i=p at b;generalize nameP (by8 s) i=r at b m;generalize bt (by8 s) i=c at h d;clear k l;go_enter Tryz.func175,Tryz.ntmps175;go_wp2_with(first | (go_at_call 168;refine(kg _ _).mono ?_;rintro e a ⟨rfl,rfl⟩;rw[d]) | (go_at_call 188;refine(m.out _).mono ?_;rintro e a ⟨rfl,rfl⟩;unfold ansW))
  go_ret2;exact⟨by rw[b.out];rfl,rfl⟩
 ·have d:isL (bt (by8 s) i)=false:=by simpa using d
  by_cases f:isD (bt (by8 s) i)=true
  ·have b:=hid (qd9 d f);generalize wordP (by8 s) i=p at b;generalize numberP (by8 s) i=r at b k;generalize bt (by8 s) i=c at h d f;clear m l;go_enter Tryz.func175,Tryz.ntmps175;go_wp2_with(first | (go_at_call 168;refine(kg _ _).mono ?_;rintro e a ⟨rfl,rfl⟩;rw[d]) | (go_at_call 184;refine(jj _ _).mono ?_;rintro e a ⟨rfl,rfl⟩;rw[f]) | (go_at_call 189;refine(k.out _).mono ?_;rintro e a ⟨rfl,rfl⟩;unfold ansW))
   go_ret2;exact⟨by rw[b.out];rfl,rfl⟩
  ·have f:isD (bt (by8 s) i)=false:=by simpa using f
   by_cases j:(bt (by8 s) i == 37)=true
   ·have b:=hid (qea d f j);generalize wordP (by8 s) i=p at b;generalize keyP (by8 s) i=r at b l;generalize bt (by8 s) i=c at h d f j;clear m k;go_enter Tryz.func175,Tryz.ntmps175;go_wp2_with(first | (go_at_call 168;refine(kg _ _).mono ?_;rintro e a ⟨rfl,rfl⟩;rw[d]) | (go_at_call 184;refine(jj _ _).mono ?_;rintro e a ⟨rfl,rfl⟩;rw[f]) | (go_at_call 190;refine(l.out _).mono ?_;rintro e a ⟨rfl,rfl⟩;unfold ansW))
    go_ret2;exact⟨by rw[b.out];rfl,rfl⟩
   ·have j:(bt (by8 s) i == 37)=false:=by simpa using j
    by_cases g:isS (bt (by8 s) i)=true
    ·have b:=hid (qdd d f j g);have g:=qok g;generalize wordP (by8 s) i=p at b;generalize bt (by8 s) i=c at h d f j g;clear m k l
     rcases g with g | ⟨g,n⟩ | ⟨g,n,t⟩
     all_goals
      go_enter Tryz.func175,Tryz.ntmps175;go_wp2_with(first | (go_at_call 168;refine(kg _ _).mono ?_;rintro e a ⟨rfl,rfl⟩;rw[d]) | (go_at_call 184;refine(jj _ _).mono ?_;rintro e a ⟨rfl,rfl⟩;rw[f]))
      go_ret2;exact⟨by rw[b.out];rfl,rfl⟩
    ·have g:isS (bt (by8 s) i)=false:=by simpa using g
     have b:=hid (qde d f j g);obtain⟨n,t,u⟩:=qqa g;generalize wordP (by8 s) i=p at b;generalize bt (by8 s) i=c at h d f j g n t u;clear m k l g;go_enter Tryz.func175,Tryz.ntmps175;go_wp2_with(first | (go_at_call 168;refine(kg _ _).mono ?_;rintro e a ⟨rfl,rfl⟩;rw[d]) | (go_at_call 184;refine(jj _ _).mono ?_;rintro e a ⟨rfl,rfl⟩;rw[f]))
     go_ret2;exact⟨by rw[b.out];rfl,rfl⟩
theorem qiy(s:ByteArray)(w:World)(y:s.size<=1048576):
  Calls Tryz.prog 191 #[.string s] w fun e F=>e=.returned (.string s)/\Below w.heap.size w F:=by
 by_cases v:s.size=0
 ·have D:s=⟨#[]⟩:=by
   apply ByteArray.ext
   exact Array.eq_empty_of_size_eq_zero v
  subst D;go_enter Tryz.func191,Tryz.ntmps191;go_wp2;go_ret;exact⟨rfl,Below.refl _ _⟩
 ·obtain⟨z,q,t,b,u⟩:=info_parts Tryz.info5
  have a:(Tryz.prog.info? 5).map (·.size)=some 1:=by rw[q];simp[b]
  have n:Tryz.prog.cellsOf 5=1:=by simp[Program.cellsOf,q,b]
  obtain⟨M,f⟩:∃M,M=madeCells (Value.int .u8 0).cells (((s.size:Nat):Int).toNat * z.size):=⟨_,rfl⟩
  have A:M.size=s.size:=by rw[f,size_madeCells,b];simp
  have C:∀W:World,(Instr.makeSlice 38 (.int .i64 (s.size:Int)) (.int .i64 (s.size:Int))).run Tryz.prog W=.ok (.slice (some ⟨W.heap.size,0,none⟩) s.size s.size) (W.alloc (.cells M 5)):=fun W=>by
   have h:=run_make (P:=Tryz.prog) W 38 5 z (.int .u8 0) Tryz.underlying38 q t .i64 .i64 (s.size:Int) (s.size:Int) (by omega) (by omega) (by rw[u];omega) (by omega)
   rw[<-f]at h
   simpa using h
  clear f;have o:=Lib.run_copy_row_string (P:=Tryz.prog) (w.alloc (.cells M 5)) 38 9 3 5 w.heap.size 0 s.size s.size s M 5 Tryz.underlying38 a (heap_alloc_new w _) (Nat.le_refl _) (by omega)
  obtain⟨Y,i⟩:∃Y,Y=(M.toList.take 0++Lib.byteCells s.data.toList++M.toList.drop (0+s.size)).toArray:=⟨_,rfl⟩
  rw[<-i]at o
  have c:Y.toList=Lib.byteCells s.data.toList:=by
   rw[i,List.toList_toArray,List.take_zero,List.nil_append,List.drop_of_length_le (by rw[Array.length_toList];omega),List.append_nil]
  have B:Y.size=s.size:=by rw[<-Array.length_toList,c,Lib.byteCells_length,<-Lib.size_eq]
  have d:((w.alloc (.cells M 5)).setRow w.heap.size Y).heap[w.heap.size]?=some (.cells Y 5 (0,0)):=setRow_heap _ _ M _ 5 (0,0) (heap_alloc_new w _)
  have r:s.data.toList≠[]:=fun e=>v (by rw[Lib.size_eq,e];rfl)
  have g:=Lib.run_unsafeString_row (P:=Tryz.prog) ((w.alloc (.cells M 5)).setRow w.heap.size Y) 227 3 9 5 Tryz.underlying227 n w.heap.size Y.size (by unfold World.shape?;rw[d]) s.data.toList r (by rw[<-Lib.size_eq];omega) (by rw[<-Lib.size_eq];omega)
   (fun j x E=>Lib.cells_of_row d Y.size j _ (by rw[List.take_of_length_le (by rw[Array.length_toList];exact Nat.le_refl _),c];simp[Lib.byteCells,E]))
  rw[<-Lib.size_eq]at g;clear i;go_enter Tryz.func191,Tryz.ntmps191;go_wp2;go_ret;have l:Below w.heap.size w (w.alloc (.cells M 5)):=(Below.refl _ w).alloc (Nat.le_refl _) _
  have m:Below w.heap.size (w.alloc (.cells M 5)) ((w.alloc (.cells M 5)).setRow w.heap.size Y):=⟨rfl,rfl,rfl,by simp,fun k G=>setRow_other _ _ _ _ (by omega)⟩
  exact⟨rfl,Lib.below_freeze (l.trans m) (p:=⟨w.heap.size,0,none⟩) (Nat.le_refl _) _⟩
theorem qlp(s:ByteArray)(w:World)(a:s.size<=1048576):
  Calls Tryz.prog 176 #[.string s] w fun e b=>e=.returned (.string s)/\Below w.heap.size w b:=by
 have c:=hid (qiy s w a);go_enter Tryz.func176,Tryz.ntmps176;go_wp2_with(go_at_call 191;refine c.out.mono ?_;rintro e b ⟨rfl,d⟩)
 go_ret;exact⟨rfl,d⟩
theorem Tryz.info201:(Tryz.prog.info? 201).map (fun i=>(i.zero,i.size,i.bytes))=some (some (.agg #[.int .i64 0,.string ⟨#[]⟩,.int .i64 0]),3,32):=by kernel_rfl
def qad (s:ByteArray) (x:Nat × Nat × Nat):List Value:=[.int .i64 x.1,.string (s.extract x.2.1 x.2.2),.int .i64 x.2.1]
def j8 (s:ByteArray) (ws:List (Nat × Nat × Nat)):List Value:=ws.flatMap (qad s)
theorem qiz(s:ByteArray)(a:List (Nat × Nat × Nat))(x:Nat × Nat × Nat):j8 s (a++[x])=j8 s a++qad s x:=by
 unfold j8;rw[List.flatMap_append];simp
def IsW (w:World) (base:Nat) (s:ByteArray) (v:Value) (ws:List (Nat × Nat × Nat)):Prop:=w.ownsRow base 201 3 v ws.length (j8 s ws)
theorem qmg(w:World)(a:Nat)(s:ByteArray):IsW w a s (.slice none 0 0) []:=World.ownsRow_nil w a 201 3
theorem qh{w b:World}{a:Nat}{E:TypeId}{k:Nat}{v:Value}{n:Nat}{cs:List Value}(h:w.ownsRow a E k v n cs)(c:∀i,v.ownBlock=some i->b.heap[i]?=w.heap[i]?):b.ownsRow a E k v n cs:=by
 refine⟨h.1,?_⟩
 rcases h.2 with hn | ⟨g,cap,cur,rfl,hg,hh,r⟩
 ·exact .inl hn
 ·exact .inr ⟨g,cap,cur,rfl,hg,by rw[c g rfl];exact hh,r⟩
theorem IsW.below{w b:World}{a:Nat}{s:ByteArray}{v:Value}{c:List (Nat × Nat × Nat)}(h:IsW w a s v c)(d:Below w.heap.size w b):IsW b a s v c :=
 qh h (fun i f=>d.block i (World.ownsRow.lt h i f).2)
theorem IsW.add{w:World}{a:Nat}{s:ByteArray}{v:Value}{d:List (Nat × Nat × Nat)}(h:IsW w a s v d)(A:a<=w.heap.size)(F:d.length<=1048577)(k i e:Nat):
  ∃q n c f,(Builtin.append_ #[187,187] 187 #[v,.slice (some ⟨w.heap.size,0,none⟩) 1 1]).run Tryz.prog (w.alloc (.cells #[.int .i64 k,.string (s.extract i e),.int .i64 i] 201))=.ok (.slice q n c) f /\
   IsW f a s (.slice q n c) (d++[(k,i,e)])/\Below a w f:=by
 obtain⟨E,C,m,o,p⟩:=info_parts Tryz.info201;have x:(w.alloc (.cells #[.int .i64 k,.string (s.extract i e),.int .i64 i] 201)).ownsRow a 201 3 v d.length (j8 s d):=World.ownsRow.alloc h _
 have b:∀j u,(qad s (k,i,e))[j]?=some u->(w.alloc (.cells #[.int .i64 k,.string (s.extract i e),.int .i64 i] 201)).cell? ((⟨w.heap.size,0,none⟩:Addr).add j)=some u:=by
  intro j u l;rw[Addr.add_lit,Nat.zero_add];have:=World.cell?_alloc_mark w #[.int .i64 k,.string (s.extract i e),.int .i64 i] 201 (0,0) j;rw[this,<-l];unfold qad;simp
 obtain⟨v',f,D,r,t,-⟩:=run_append_own (P:=Tryz.prog) (w.alloc (.cells #[.int .i64 k,.string (s.extract i e),.int .i64 i] 201)) a 187 187 201 E _ 3 32 Tryz.underlying187 C m o p rfl (by decide) v d.length _ x ⟨w.heap.size,0,none⟩ 1 1 (qad s (k,i,e)) rfl b
  (fun u l=>by unfold qad at l;simp at l;rcases l with rfl | rfl | rfl <;> rfl) (by unfold maxLen;omega) (by omega) (by simp;omega)
 have y:=((Below.refl a w).alloc A _).grown t (by simp;omega) (fun g B=>(World.ownsRow.lt h g B).1)
 have z:IsW f a s v' (d++[(k,i,e)]):=by
  unfold IsW;rw[qiz,List.length_append];exact r
 rcases r.2 with ⟨rfl,h0⟩ | ⟨g,cap,cur,rfl,-⟩
 ·omega
 ·exact⟨_,_,_,f,D,z,y⟩
theorem extract_size(s:ByteArray)(a b:Nat):(s.extract a b).size<=s.size:=by
 rw[<-zf,kw,<-zf];unfold part;rw[List.length_take,List.length_drop];omega
def qex (s:ByteArray) (w w':World) (e:Ending):Prop:=∃v,e=.returned (.tuple #[v,.int .i64 (scan (by8 s)).2])/\IsW w' w.heap.size s v (scan (by8 s)).1/\Below w.heap.size w w'
theorem qe8(s:ByteArray):s.extract s.size s.size=⟨#[]⟩:=by
 apply ByteArray.ext
 apply Array.eq_empty_of_size_eq_zero
 have:=kw s s.size s.size
 have a:(by8 (s.extract s.size s.size)).length=0:=by rw[this];unfold part;simp
 rw[zf]at a;exact a
theorem qdf(s:ByteArray)(w:World)(hs:s.size<=1048576):Calls Tryz.prog 164 #[.string s] w fun e b=>qex s w b e:=by
 have y:=hid (zf s)
 have F:Hid (∀W:World,Calls Tryz.prog 174 #[.string s,.int .i64 0] W fun e b=>e=.returned (.int .i64 (skip (by8 s) 0))/\b=W):=fun W=>qgb s 0 W (Nat.zero_le _) hs
 have L:skip (by8 s) 0<=s.size:=by rw[<-zf];exact(qmf (Nat.zero_le _)).2
 obtain⟨R,HR⟩:∃R,Hid (scan (by8 s)=R):=⟨_,rfl⟩
 have D:Hid (jv (s.size+1) (by8 s) (skip (by8 s) 0) []=R):=by
  have:=HR.out;unfold scan at this
  rwa [y.out]at this
 unfold qex;rw[HR.out];generalize skip (by8 s) 0=T at F L D;go_enter Tryz.func164,Tryz.ntmps164;go_wp2_with(go_at_call 174;refine(F.out _).mono ?_;rintro e b ⟨rfl,rfl⟩)
 go_loopg [4,5] s.size (fun kx s4 s5 wr=>∃(k:Nat) (B:Nat × Option Addr × Nat),s4=.slice B.2.1 B.1 B.2.2/\s5=.int .i64 k/\k<=s.size/\s.size - k<=kx/\Hid (∃f a,s.size<k+f/\a.length<=k/\jv f (by8 s) k a=R/\IsW wr b.heap.size s (.slice B.2.1 B.1 B.2.2) a/\Below b.heap.size b wr))
 case atStart=>exact⟨T,(0,none,0),rfl,rfl,L,by omega,(⟨s.size+1,[],by omega,Nat.zero_le _,D.out,qmg _ _ _,Below.refl _ _⟩:∃f a,s.size<T+f/\a.length<=T/\jv f (by8 s) T a=R/\IsW b b.heap.size s (.slice none 0 0) a/\Below b.heap.size b b)⟩
 case round =>
  obtain⟨k,⟨nl,X,Y⟩,rfl,rfl,hk,hg,J⟩:=hrel;simp only at J
  by_cases P:k<s.size
  ·have O:k<(by8 s).length:=by rw[y.out];exact P
   have S:Hid (∀W:World,Calls Tryz.prog 175 #[.string s,.int .i64 k] W fun e b=>e=ansW (wordP (by8 s) k)/\b=W):=fun W=>qnd s k W P hs
   have o:=qe7 O;rw[y.out]at o
   by_cases A:(wordP (by8 s) k).1=0
   ·have E:Hid (R=([],(k:Int))):=by
     obtain⟨f,a,U,-,j,-⟩:=J.out
     obtain⟨f,rfl⟩:∃g,f=g+1:=⟨f - 1,by omega⟩
     rw[qjs O A]at j;exact j.symm
    have HB:Hid (Below b.heap.size b wr):=by obtain⟨f,a,-,-,-,-,N⟩:=J.out;exact N
    have d:Hid (∀W:World,Calls Tryz.prog 175 #[.string s,.int .i64 k] W fun e b=>e=.returned (.tuple #[.int .i64 0,.int .i64 (wordP (by8 s) k).2])/\b=W):=fun W=>by
     have:=S.out W;unfold ansW at this
     rwa [A]at this
    generalize (wordP (by8 s) k).2=e0 at d;clear S J o A O;go_wp2_with(go_at_call 175;refine(d.out _).mono ?_;rintro e b ⟨rfl,rfl⟩)
    go_ret2;exact⟨_,by rw[E.out];rfl,by rw[E.out];exact qmg _ _ _,HB.out⟩
   ·have hZ:(((wordP (by8 s) k).1:Int) == 0)=false:=by simpa using A
    have v:=o.2.2.1 A;have t:=o.2.1
    have p:Hid (∀W:World,Calls Tryz.prog 174 #[.string s,.int .i64 (wordP (by8 s) k).2] W fun e b=>e=.returned (.int .i64 (skip (by8 s) (wordP (by8 s) k).2))/\b=W):=fun W=>qgb s _ W t hs
    have m:=qmf (l:=by8 s) (i:=(wordP (by8 s) k).2) (by rw[y.out];exact t)
    rw[y.out]at m
    have G:Hid (∃f a,s.size<skip (by8 s) (wordP (by8 s) k).2+f/\a.length<=k/\jv f (by8 s) (skip (by8 s) (wordP (by8 s) k).2) (a++[((wordP (by8 s) k).1,k,(wordP (by8 s) k).2)])=R/\IsW wr b.heap.size s (.slice X nl Y) a/\Below b.heap.size b wr):=by
     obtain⟨f,a,U,ha,j,M,z⟩:=J.out
     obtain⟨f,rfl⟩:∃g,f=g+1:=⟨f - 1,by omega⟩
     rw[qh1 O A]at j;exact⟨f,a,by omega,ha,j,M,z⟩
    have d:Hid (∀W:World,Calls Tryz.prog 175 #[.string s,.int .i64 k] W fun e b=>e=.returned (.tuple #[.int .i64 (wordP (by8 s) k).1,.int .i64 (wordP (by8 s) k).2])/\b=W):=S.out
    have Q:Hid (∀W:World,Calls Tryz.prog 176 #[.string (s.extract k (wordP (by8 s) k).2)] W fun e b=>e=.returned (.string (s.extract k (wordP (by8 s) k).2))/\Below W.heap.size W b):=fun W=>qlp _ W (by have:=extract_size s k (wordP (by8 s) k).2;omega)
    generalize skip (by8 s) (wordP (by8 s) k).2=u at p m G;generalize wordP (by8 s) k=pr at d hZ v t p m G Q;obtain⟨K,e0⟩:=pr;simp only at d hZ v t p m G Q;clear S J o A O;go_wp2_with fail;refine(d.out _).mono ?_;rintro e w9 ⟨rfl,rfl⟩;go_wp2_with fail;refine(Q.out _).mono ?_;rintro e w1 ⟨rfl,r⟩
    have C:Hid (∃q n c w2 f a,(Builtin.append_ #[187,187] 187 #[.slice X nl Y,.slice (some ⟨w1.heap.size,0,none⟩) 1 1]).run Tryz.prog (w1.alloc (.cells #[.int .i64 K,.string (s.extract k e0),.int .i64 k] 201))=.ok (.slice q n c) w2 /\
      s.size<u+f/\a.length<=u/\jv f (by8 s) u a=R/\IsW w2 b.heap.size s (.slice q n c) a/\Below b.heap.size b w2):=by
     obtain⟨f,a,U,ha,j,M,z⟩:=G.out;have N:=z.size;obtain⟨q,n,c,w2,x,Z,h3⟩:=(M.below r).add (by have:=r.size;omega) (by omega) K k e0
     exact⟨q,n,c,w2,f,a++[(K,k,e0)],x,U,by rw[List.length_append];simp;omega,j,Z,(z.trans (r.mono N)).trans h3⟩
    clear G Q d r;obtain⟨V,n2,c2,w2,f2,I,x,h⟩:=C.out;have H:=hid h;clear C h;go_wp2_with(first | (at_builtin;refine Lib.wpList_append_run _ rfl _ _ _ _ rfl _ _ rfl rfl _ _ x ?_) | (go_at_call 174;refine(p.out _).mono ?_;rintro e w9 ⟨rfl,rfl⟩))
    go_roundg (s.size - u)
    case measure=>omega
    case rel=>exact⟨u,(n2,V,c2),rfl,rfl,m.2,Nat.le_refl _,(⟨f2,I,H.out⟩:∃f a,s.size<u+f/\a.length<=u/\jv f (by8 s) u a=R/\IsW _ b.heap.size s (.slice V n2 c2) a/\Below b.heap.size b _)⟩
  ·obtain rfl:k=s.size:=by omega
   have C:Hid (∃q n c w2,(Builtin.append_ #[187,187] 187 #[.slice X nl Y,.slice (some ⟨wr.heap.size,0,none⟩) 1 1]).run Tryz.prog (wr.alloc (.cells #[.int .i64 5,.string ⟨#[]⟩,.int .i64 s.size] 201))=.ok (.slice q n c) w2 /\
     R.2=-1/\IsW w2 b.heap.size s (.slice q n c) R.1/\Below b.heap.size b w2):=by
    obtain⟨f,a,U,ha,j,M,z⟩:=J.out
    obtain⟨f,rfl⟩:∃g,f=g+1:=⟨f - 1,by omega⟩
    rw[qjr (by rw[y.out];exact Nat.le_refl _),y.out]at j
    have N:=z.size;obtain⟨q,n,c,w2,x,Z,h3⟩:=M.add N (by omega) 5 s.size s.size;rw[qe8]at x;exact⟨q,n,c,w2,x,by rw[<-j],by rw[<-j];exact Z,z.trans h3⟩
   clear J;obtain⟨V,n2,c2,w2,x,h⟩:=C.out;have H:=hid h;clear C h;go_wp2_with(at_builtin;refine Lib.wpList_append_run _ rfl _ _ _ _ rfl _ _ rfl rfl _ _ x ?_)
   go_ret2;exact⟨_,by rw[H.out.1];rfl,H.out.2.1,H.out.2.2⟩
theorem zo{w:World}{b k n:Nat}{E:TypeId}{v:Value}{cs:List Value}(h:w.ownsRow b E k v n cs):
  ∃c a,v=.slice c n a/\n<=a/\a<=maxLen/\((c=none/\n=0/\a=0)\/∃g,c=some ⟨g,0,none⟩):=by
 rcases h.2 with ⟨rfl,rfl⟩ | ⟨g,a,cur,rfl,hg,hh,hn,hm,hs,ht⟩
 ·exact⟨none,0,rfl,Nat.le_refl _,Nat.zero_le _,.inl ⟨rfl,rfl,rfl⟩⟩
 ·exact⟨some ⟨g,0,none⟩,a,rfl,hn,hm,.inr ⟨g,rfl⟩⟩
theorem qh3(s:ByteArray):∀(a:List (Nat × Nat × Nat)) (i:Nat) (x:Nat × Nat × Nat),a[i]?=some x ->
  (j8 s a)[i * 3]?=some (.int .i64 x.1)/\(j8 s a)[i * 3+1]?=some (.string (s.extract x.2.1 x.2.2))/\(j8 s a)[i * 3+2]?=some (.int .i64 x.2.1)
 | [],i,x,h=>by cases h
 | y :: r,0,x,h=>by
  cases h
  exact⟨rfl,rfl,rfl⟩
 | y :: r,i+1,x,h=>by
  have:=qh3 s r i x h;have e:j8 s (y :: r)=qad s y++j8 s r:=rfl;have b:(qad s y).length=3:=rfl;rw[e,List.getElem?_append_right (by omega),List.getElem?_append_right (by omega),List.getElem?_append_right (by omega),b];rw[show(i+1) * 3 - 3=i * 3 by omega,show(i+1) * 3+1 - 3=i * 3+1 by omega,show(i+1) * 3+2 - 3=i * 3+2 by omega];exact this
theorem IsW.at{w:World}{a:Nat}{s:ByteArray}{g n b:Nat}{d:List (Nat × Nat × Nat)}(h:IsW w a s (.slice (some ⟨g,0,none⟩) n b) d){i:Nat}{x:Nat × Nat × Nat}(f:d[i]?=some x):
  w.cell? ⟨g,i * 3,none⟩=some (.int .i64 x.1)/\w.cell? ⟨g,i * 3+1,none⟩=some (.string (s.extract x.2.1 x.2.2))/\w.cell? ⟨g,i * 3+2,none⟩=some (.int .i64 x.2.1):=by
 obtain⟨c0,c1,c2⟩:=qh3 s d i x f;have c:=World.ownsRow.cells h (g:=g) rfl;refine⟨?_,?_,?_⟩
 ·have:=c _ _ c0;rwa [Addr.add_lit,Nat.zero_add]at this
 ·have:=c _ _ c1;rwa [Addr.add_lit,Nat.zero_add]at this
 ·have:=c _ _ c2;rwa [Addr.add_lit,Nat.zero_add]at this
end Go.Proofs.YtbdogaaooeoccaaGreatDoor
