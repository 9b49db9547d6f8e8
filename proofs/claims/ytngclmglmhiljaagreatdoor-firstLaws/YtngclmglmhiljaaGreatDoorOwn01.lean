/- Texts that the proofs of the First statements stand on, part Own01. -/
import Derived.Test.YtngclmglmhiljaaGreatDoorRows
import Derived.WalkKit
import Derived.WalkSpells
import Derived.WalkLawsBesides
import Derived.Laws.BytesArg
import Derived.Laws.Strings3
import Derived.Laws.DeepStrings4
import Derived.Lib.AppendStr
import Derived.Lib.Strings
import Derived.Lib.Walk
import Derived.Lib.Bytealg
import Derived.Deep.CutBlock
import Derived.Deep.DeepCutAuto
import Derived.BigQuiet
import Derived.Deep.LoopGhost
import Derived.Lib.BufferWrite
import Derived.Lib.UnsafeStr
import Derived.Laws.MakeOwn
import Derived.Lib.AppendZeros
set_option maxHeartbeats 16000000
set_option maxRecDepth 100000
namespace Go.Proofs.YtngclmglmhiljaaGreatDoor
def bt (l:List UInt8) (i:Nat):Int:=((l[i]?.getD 0).toNat:Int)
def isL (c:Int):Bool:=(decide (97<=c) && decide (c<=122)) || (decide (65<=c) && decide (c<=90)) || (c == 95)
def isD (c:Int):Bool:=decide (48<=c) && decide (c<=57)
def isN (c:Int):Bool:=isL c || isD c
def isB (c:Int):Bool:=c == 32 || c == 9 || c == 10
def isS (c:Int):Bool:=c == 58 || c == 124 || c == 59
def noNl (c:Int):Bool:=c != 10
def xv (p:Int->Bool):List UInt8->Nat
 | []=>0
 | b :: r=>if p (b.toNat:Int)=true then xv p r+1 else 0
def runEnd (p:Int->Bool) (l:List UInt8) (i:Nat):Nat:=i+xv p (l.drop i)
theorem qeq {l:List UInt8} {i:Nat} (h:i<l.length):∃ b,l.drop i=b :: l.drop (i+1)/\bt l i=(b.toNat:Int) :=
 ⟨l[i],List.drop_eq_getElem_cons h,by unfold bt;rw [List.getElem?_eq_getElem h];rfl⟩
theorem kt {p:Int->Bool} {l:List UInt8} {i:Nat} (h:i<l.length) (hp:p (bt l i)=true):runEnd p l i=runEnd p l (i+1):=by
 obtain ⟨b,hd,hb⟩:=qeq h
 unfold runEnd
 rw [hd]
 rw [hb] at hp
 simp only [xv,hp,if_true]
 omega
theorem qcp {p:Int->Bool} {l:List UInt8} {i:Nat} (h:i<l.length) (hp:p (bt l i)=false):runEnd p l i=i:=by
 obtain ⟨b,hd,hb⟩:=qeq h
 unfold runEnd
 rw [hd]
 rw [hb] at hp
 simp [xv,hp]
theorem qc6 {p:Int->Bool} {l:List UInt8} {i:Nat} (h:l.length<=i):runEnd p l i=i:=by
 unfold runEnd
 rw [List.drop_eq_nil_of_le h]
 rfl
theorem vl (p:Int->Bool) (l:List UInt8) (i:Nat):i<=runEnd p l i:=Nat.le_add_right _ _
theorem qdz (p:Int->Bool):∀ l:List UInt8,xv p l<=l.length
 | []=>Nat.le_refl _
 | b :: r=>by
  unfold xv
  split
  ·have:=qdz p r;simp;omega
  ·simp
theorem jk {p:Int->Bool} {l:List UInt8} {i:Nat} (h:i<=l.length):runEnd p l i<=l.length:=by
 unfold runEnd
 have:=qdz p (l.drop i)
 rw [List.length_drop] at this
 omega
def pre2 (x y:Int) (l:List UInt8) (i:Nat):Bool:=decide (i+1<l.length) && (bt l i == x) && (bt l (i+1) == y)
def xm:Nat->List UInt8->Nat->Nat
 | 0,_,i=>i
 | f+1,l,i=>if i<l.length then (if isB (bt l i)=true then xm f l (i+1) else if pre2 47 47 l i=true then xm f l (runEnd noNl l i) else i) else i
def skip (l:List UInt8) (i:Nat):Nat:=xm (l.length+1) l i
theorem qfe {f:Nat} {l:List UInt8} {i:Nat} (h:l.length<=i):xm f l i=i:=by
 cases f with
 | zero=>rfl
 | succ f=>unfold xm;rw [if_neg (by omega)]
theorem qc7 {f:Nat} {l:List UInt8} {i:Nat} (h:i<l.length) (hb:isB (bt l i)=true):xm (f+1) l i=xm f l (i+1):=by
 rw [xm,if_pos h,if_pos hb]
theorem qd0 {f:Nat} {l:List UInt8} {i:Nat} (h:i<l.length) (hb:isB (bt l i)=false) (hp:pre2 47 47 l i=true):xm (f+1) l i=xm f l (runEnd noNl l i):=by
 rw [xm,if_pos h,if_neg (by simp [hb]),if_pos hp]
theorem qd1 {f:Nat} {l:List UInt8} {i:Nat} (hb:isB (bt l i)=false) (hp:pre2 47 47 l i=false):xm f l i=i:=by
 cases f with
 | zero=>rfl
 | succ f =>
  rw [xm,if_neg (c:=isB (bt l i)=true) (by simp [hb]),if_neg (c:=pre2 47 47 l i=true) (by simp [hp])]
  split <;> rfl
theorem qd2 {l:List UInt8} {i:Nat} (hp:pre2 47 47 l i=true):i<l.length/\i+1<=runEnd noNl l i:=by
 simp only [pre2,Bool.and_eq_true,decide_eq_true_eq,beq_iff_eq] at hp
 have hi:i<l.length:=by omega
 rw [kt hi (by rw [hp.1.2];rfl)]
 exact ⟨hi,vl _ _ _⟩
theorem qbw {l:List UInt8}:∀ (f i:Nat),i<=l.length->i<=xm f l i/\xm f l i<=l.length
 | 0,i,h=>⟨Nat.le_refl _,h⟩
 | f+1,i,h=>by
  rw [xm]
  split
  ·split
   ·have:=qbw (l:=l) f (i+1) (by omega);omega
   ·split
    ·rename_i hp
     have h1:=qd2 hp
     have:=qbw f (runEnd noNl l i) (jk h)
     omega
    ·omega
  ·omega
theorem qbs {l:List UInt8} {i:Nat} (h:i<=l.length):i<=skip l i/\skip l i<=l.length:=qbw _ _ h
def nameP (l:List UInt8) (i:Nat):Nat × Nat:=if 12<runEnd isN l i - i then (0,i) else (1,runEnd isN l i)
def jv (l:List UInt8) (i e:Nat):Bool:=decide (4<e - i) || (decide (1<e - i) && (bt l i == 48)) || (decide (e<l.length) && isL (bt l e))
def numberP (l:List UInt8) (i:Nat):Nat × Nat:=if jv l i (runEnd isD l i)=true then (0,i) else (2,runEnd isD l i)
def j2:List (List UInt8):=[[116,111,107,101,110],[108,101,102,116],[114,105,103,104,116],[110,111,110,97,115,115,111,99],[115,116,97,114,116],[101,120,112,101,99,116],[112,114,101,99]]
def part (l:List UInt8) (i e:Nat):List UInt8:=(l.drop i).take (e - i)
def keyP (l:List UInt8) (i:Nat):Nat × Nat :=
 if pre2 37 37 l i=true then (4,i+2) else if j2.contains (part l (i+1) (runEnd isN l (i+1)))=true then (4,runEnd isN l (i+1)) else (0,i)
def wordP (l:List UInt8) (i:Nat):Nat × Nat :=
 if isL (bt l i)=true then nameP l i else if isD (bt l i)=true then numberP l i else if (bt l i == 37)=true then keyP l i else if isS (bt l i)=true then (3,i+1) else (0,i)
theorem qab {l:List UInt8} {i:Nat} (h:isL (bt l i)=true):wordP l i=nameP l i:=by unfold wordP;rw [if_pos h]
theorem qa8 {l:List UInt8} {i:Nat} (h:isL (bt l i)=false) (h2:isD (bt l i)=true):wordP l i=numberP l i:=by
 unfold wordP;rw [if_neg (by simp [h]),if_pos h2]
theorem qa9 {l:List UInt8} {i:Nat} (h:isL (bt l i)=false) (h2:isD (bt l i)=false) (h3:(bt l i == 37)=true):wordP l i=keyP l i:=by
 unfold wordP;rw [if_neg (by simp [h]),if_neg (by simp [h2]),if_pos h3]
theorem qac {l:List UInt8} {i:Nat} (h:isL (bt l i)=false) (h2:isD (bt l i)=false) (h3:(bt l i == 37)=false) (h4:isS (bt l i)=true):wordP l i=(3,i+1):=by
 unfold wordP;rw [if_neg (by simp [h]),if_neg (by simp [h2]),if_neg (by simp [h3]),if_pos h4]
theorem qbl {l:List UInt8} {i:Nat} (h:isL (bt l i)=false) (h2:isD (bt l i)=false) (h3:(bt l i == 37)=false) (h4:isS (bt l i)=false):wordP l i=(0,i):=by
 unfold wordP;rw [if_neg (by simp [h]),if_neg (by simp [h2]),if_neg (by simp [h3]),if_neg (by simp [h4])]
theorem yg {l:List UInt8} {i:Nat} (h:i<l.length):i<=(wordP l i).2/\(wordP l i).2<=l.length/\((wordP l i).1≠0->i<(wordP l i).2)/\(wordP l i).1<=4:=by
 have hN:runEnd isN l (i+1)<=l.length:=jk (by omega)
 have hD:runEnd isD l (i+1)<=l.length:=jk (by omega)
 have hN':=vl isN l (i+1)
 have hD':=vl isD l (i+1)
 by_cases h1:isL (bt l i)=true
 ·rw [qab h1]
  have e:=kt (p:=isN) h (by unfold isN;rw [h1];rfl)
  unfold nameP
  split <;> simp <;> omega
 ·have h1:isL (bt l i)=false:=by simpa using h1
  by_cases h2:isD (bt l i)=true
  ·rw [qa8 h1 h2]
   have e:=kt (p:=isD) h h2
   unfold numberP
   split <;> simp <;> omega
  ·have h2:isD (bt l i)=false:=by simpa using h2
   by_cases h3:(bt l i == 37)=true
   ·rw [qa9 h1 h2 h3]
    unfold keyP
    split
    ·rename_i hp
     simp only [pre2,Bool.and_eq_true,decide_eq_true_eq] at hp
     simp;omega
    ·split <;> simp <;> omega
   ·have h3:(bt l i == 37)=false:=by simpa using h3
    by_cases h4:isS (bt l i)=true
    ·rw [qac h1 h2 h3 h4];simp;omega
    ·rw [qbl h1 h2 h3 (by simpa using h4)];simp;omega
def kr:Nat->List UInt8->Nat->List (Nat × Nat × Nat)->List (Nat × Nat × Nat) × Int
 | 0,_,_,a=>(a,-2)
 | f+1,l,i,a=>if i<l.length then (if (wordP l i).1=0 then ([],(i:Int)) else kr f l (skip l (wordP l i).2) (a++[((wordP l i).1,i,(wordP l i).2)])) else (a++[(5,l.length,l.length)],-1)
def scan (l:List UInt8):List (Nat × Nat × Nat) × Int:=kr (l.length+1) l (skip l 0) []
theorem qbx {f:Nat} {l:List UInt8} {i:Nat} {a:List (Nat × Nat × Nat)} (h:l.length<=i):kr (f+1) l i a=(a++[(5,l.length,l.length)],-1):=by
 rw [kr,if_neg (by omega)]
theorem qby {f:Nat} {l:List UInt8} {i:Nat} {a:List (Nat × Nat × Nat)} (h:i<l.length) (hw:(wordP l i).1=0):kr (f+1) l i a=([],(i:Int)):=by
 rw [kr,if_pos h,if_pos hw]
theorem y8 {f:Nat} {l:List UInt8} {i:Nat} {a:List (Nat × Nat × Nat)} (h:i<l.length) (hw:(wordP l i).1≠0) :
  kr (f+1) l i a=kr f l (skip l (wordP l i).2) (a++[((wordP l i).1,i,(wordP l i).2)]):=by
 rw [kr,if_pos h,if_neg hw]
def nameOk (l:List UInt8):Bool:=!(l == []) && isL (bt l 0) && (((runEnd isN l 0:Nat):Int) == (l.length:Int)) && decide ((l.length:Int)<=12)
def dg:Nat->Nat->List UInt8->List UInt8
 | 0,_,t=>t
 | f+1,n,t=>if n / 10=0 then UInt8.ofNat (48+n % 10) :: t else dg f (n / 10) (UInt8.ofNat (48+n % 10) :: t)
theorem qfz {p:Int->Bool} {l:List UInt8}:∀ (k i:Nat),i+k=l.length->(∀ j,i<=j->j<l.length->p (bt l j)=true)->runEnd p l i=l.length
 | 0,i,h,_=>by rw [qc6 (by omega)];omega
 | k+1,i,h,ha=>by
  rw [kt (by omega) (ha i (Nat.le_refl _) (by omega))]
  exact qfz k (i+1) (by omega) (fun j h1 h2=>ha j (by omega) h2)
theorem qhw {p:Int->Bool} {l:List UInt8}:∀ (k i:Nat),i+k=l.length->runEnd p l i=l.length->∀ j,i<=j->j<l.length->p (bt l j)=true
 | 0,i,h,_,j,h1,h2=>by omega
 | k+1,i,h,he,j,h1,h2=>by
  have hi:i<l.length:=by omega
  by_cases hp:p (bt l i)=true
  ·rw [kt hi hp] at he
   rcases Nat.eq_or_lt_of_le h1 with e | h1
   ·rw [<-e];exact hp
   ·exact qhw k (i+1) (by omega) he j h1 h2
  ·rw [qcp hi (by simpa using hp)] at he
   omega
end Go.Proofs.YtngclmglmhiljaaGreatDoor
namespace Go.Proofs.YtngclmglmhiljaaGreatDoor
open Go.RowKit
theorem Tryz.info5:(Tryz.prog.info? 5).map (fun i=>(i.zero,i.size,i.bytes))=some (some (.int .u8 0),1,1):=by kernel_rfl
def by8 (s:ByteArray):List UInt8:=s.data.toList
theorem qy (s:ByteArray):(by8 s).length=s.size:=by unfold by8;rw [Array.length_toList];rfl
theorem xz (s:ByteArray):s.toList=by8 s:=ByteArray.toList_eq s
theorem qqw (s:ByteArray) (i:Nat) (h:i<s.size):(((s[i]'h).toNat:Nat):Int)=bt (by8 s) i:=by
 unfold bt by8
 have h':i<s.data.size:=h
 rw [Array.getElem?_toList,Array.getElem?_eq_getElem h']
 rfl
theorem ku (s:ByteArray) (i:Nat) (h:i<s.size) (W:World):(Instr.index 9 (.string s) (.int .i64 (i:Int))).run Tryz.prog W=.ok (.int .u8 (bt (by8 s) i)) W:=by
 rw [run_index_string W 9 s .i64 (i:Int) Tryz.underlying9,dif_pos ⟨by omega,by omega⟩]
 rw [<-qqw s i h]
 rfl
theorem zx (c:Int) (w:World):Calls Tryz.prog 112 #[.int .u8 c] w fun e w'=>e=.returned (.bool (isL c))/\w'=w:=by
 by_cases h1:97<=c
 ·by_cases h2:c<=122
  ·have H:Hid (isL c=true):=by show _=_;unfold isL;simp [h1,h2]
   go_enter Tryz.func112,Tryz.ntmps112
   go_wp2
   go_ret
   exact ⟨by rw [H.out];rfl,rfl⟩
  ·have H:Hid (isL c=false):=by show _=_;unfold isL;simp;omega
   have h3:65<=c:=by omega
   have h4:¬ c<=90:=by omega
   have h5:(c == 95)=false:=by simp;omega
   go_enter Tryz.func112,Tryz.ntmps112
   go_wp2
   go_ret
   exact ⟨by rw [H.out];rfl,rfl⟩
 ·by_cases h3:65<=c
  ·by_cases h4:c<=90
   ·have H:Hid (isL c=true):=by show _=_;unfold isL;simp [h3,h4]
    go_enter Tryz.func112,Tryz.ntmps112
    go_wp2
    go_ret
    exact ⟨by rw [H.out];rfl,rfl⟩
   ·have H:Hid (isL c=(c == 95)):=by show _=_;unfold isL;simp [h1,h4]
    generalize isL c=r at H
    go_enter Tryz.func112,Tryz.ntmps112
    go_wp2
    go_ret
    exact ⟨by rw [H.out];rfl,rfl⟩
  ·have H:Hid (isL c=false):=by show _=_;unfold isL;simp;omega
   have h5:(c == 95)=false:=by simp;omega
   go_enter Tryz.func112,Tryz.ntmps112
   go_wp2
   go_ret
   exact ⟨by rw [H.out];rfl,rfl⟩
theorem je (c:Int) (w:World):Calls Tryz.prog 128 #[.int .u8 c] w fun e w'=>e=.returned (.bool (isD c))/\w'=w:=by
 by_cases h1:48<=c
 ·have H:Hid (isD c=decide (c<=57)):=by show _=_;unfold isD;simp [h1]
  go_enter Tryz.func128,Tryz.ntmps128
  go_wp2
  go_ret
  exact ⟨by rw [H.out];rfl,rfl⟩
 ·have H:Hid (isD c=false):=by show _=_;unfold isD;simp [h1]
  go_enter Tryz.func128,Tryz.ntmps128
  go_wp2
  go_ret
  exact ⟨by rw [H.out];rfl,rfl⟩
theorem qad (c:Int) (w:World):Calls Tryz.prog 75 #[.int .u8 c] w fun e w'=>e=.returned (.bool (isL c))/\w'=w:=by
 by_cases h1:97<=c
 ·by_cases h2:c<=122
  ·have H:Hid (isL c=true):=by show _=_;unfold isL;simp [h1,h2]
   go_enter Tryz.func75,Tryz.ntmps75
   go_wp2
   go_ret
   exact ⟨by rw [H.out];rfl,rfl⟩
  ·have H:Hid (isL c=false):=by show _=_;unfold isL;simp;omega
   have h3:65<=c:=by omega
   have h4:¬ c<=90:=by omega
   have h5:(c == 95)=false:=by simp;omega
   go_enter Tryz.func75,Tryz.ntmps75
   go_wp2
   go_ret
   exact ⟨by rw [H.out];rfl,rfl⟩
 ·by_cases h3:65<=c
  ·by_cases h4:c<=90
   ·have H:Hid (isL c=true):=by show _=_;unfold isL;simp [h3,h4]
    go_enter Tryz.func75,Tryz.ntmps75
    go_wp2
    go_ret
    exact ⟨by rw [H.out];rfl,rfl⟩
   ·have H:Hid (isL c=(c == 95)):=by show _=_;unfold isL;simp [h1,h4]
    generalize isL c=r at H
    go_enter Tryz.func75,Tryz.ntmps75
    go_wp2
    go_ret
    exact ⟨by rw [H.out];rfl,rfl⟩
  ·have H:Hid (isL c=false):=by show _=_;unfold isL;simp;omega
   have h5:(c == 95)=false:=by simp;omega
   go_enter Tryz.func75,Tryz.ntmps75
   go_wp2
   go_ret
   exact ⟨by rw [H.out];rfl,rfl⟩
theorem qd3 (c:Int) (w:World):Calls Tryz.prog 76 #[.int .u8 c] w fun e w'=>e=.returned (.bool (isD c))/\w'=w:=by
 by_cases h1:48<=c
 ·have H:Hid (isD c=decide (c<=57)):=by show _=_;unfold isD;simp [h1]
  go_enter Tryz.func76,Tryz.ntmps76
  go_wp2
  go_ret
  exact ⟨by rw [H.out];rfl,rfl⟩
 ·have H:Hid (isD c=false):=by show _=_;unfold isD;simp [h1]
  go_enter Tryz.func76,Tryz.ntmps76
  go_wp2
  go_ret
  exact ⟨by rw [H.out];rfl,rfl⟩
theorem qbg (s:ByteArray) (i:Nat) (w:World) (hi:i<=s.size) (hs:s.size<=1048576) :
  Calls Tryz.prog 113 #[.string s,.int .i64 i] w fun e w'=>e=.returned (.int .i64 (runEnd isN (by8 s) i))/\w'=w:=by
 go_enter Tryz.func113,Tryz.ntmps113
 go_wp2
 go_loop [1] (fun v=>∃ k:Nat,k<=s.size/\v=.int .i64 k/\Hid (runEnd isN (by8 s) i=runEnd isN (by8 s) k)) (fun v=>s.size - (intOf v).toNat)
 case atStart=>exact ⟨i,hi,rfl,rfl⟩
 case round =>
  obtain ⟨k,hk,rfl,HR⟩:=hrel
  by_cases hlt:k<s.size
  ·have hix:=ku s k hlt
   have hl:k<(by8 s).length:=by rw [qy];exact hlt
   obtain ⟨c,hc⟩:∃ c,c=bt (by8 s) k:=⟨_,rfl⟩
   rw [<-hc] at hix
   by_cases h1:isL c=true
   ·have HN:Hid (runEnd isN (by8 s) i=runEnd isN (by8 s) (k+1)):=by
     show _=_
     rw [HR.out,kt hl (by unfold isN;rw [<-hc,h1];rfl)]
    clear HR hl hc
    go_wp2_with (go_at_call 112;refine (zx _ _).mono ?_;rintro e w' ⟨rfl,rfl⟩;rw [h1])
    go_round
    case rel=>exact ⟨k+1,by omega,by go_num,HN⟩
    case measure=>simp [intOf];omega
   ·have h1:isL c=false:=by simpa using h1
    by_cases h2:isD c=true
    ·have HN:Hid (runEnd isN (by8 s) i=runEnd isN (by8 s) (k+1)):=by
      show _=_
      rw [HR.out,kt hl (by unfold isN;rw [<-hc,h1,h2];rfl)]
     clear HR hl hc
     go_wp2_with (first | (go_at_call 112;refine (zx _ _).mono ?_;rintro e w' ⟨rfl,rfl⟩;rw [h1]) | (go_at_call 128;refine (je _ _).mono ?_;rintro e w' ⟨rfl,rfl⟩;rw [h2]))
     go_round
     case rel=>exact ⟨k+1,by omega,by go_num,HN⟩
     case measure=>simp [intOf];omega
    ·have h2:isD c=false:=by simpa using h2
     have HN:Hid (runEnd isN (by8 s) i=k):=by
      show _=_
      rw [HR.out,qcp hl (by unfold isN;rw [<-hc,h1,h2];rfl)]
     clear HR hl hc
     go_wp2_with (first | (go_at_call 112;refine (zx _ _).mono ?_;rintro e w' ⟨rfl,rfl⟩;rw [h1]) | (go_at_call 128;refine (je _ _).mono ?_;rintro e w' ⟨rfl,rfl⟩;rw [h2]))
     go_ret
     exact ⟨by rw [HN.out];rfl,rfl⟩
  ·have HN:Hid (runEnd isN (by8 s) i=k):=by
    show _=_
    rw [HR.out,qc6 (by rw [qy];omega)]
   clear HR
   go_wp2
   go_ret
   exact ⟨by rw [HN.out];rfl,rfl⟩
def begB (a b:ByteArray):Bool:=decide ((b.size:Int)<=(a.size:Int)) && ((a.extract 0 b.size).toList == b.toList)
theorem qg4 (a b:ByteArray) (w:World):Calls Tryz.prog 154 #[.string a,.string b] w fun e w'=>e=.returned (.bool (begB a b))/\w'=w:=by
 by_cases h:(b.size:Int)<=(a.size:Int)
 ·have H:Hid (begB a b=((a.extract 0 b.size).toList == b.toList)):=by show _=_;unfold begB;simp [h]
  go_enter Tryz.func154,Tryz.ntmps154
  go_wp2
  go_ret
  exact ⟨by rw [H.out];rfl,rfl⟩
 ·have H:Hid (begB a b=false):=by show _=_;unfold begB;simp [h]
  go_enter Tryz.func154,Tryz.ntmps154
  go_wp2
  go_ret
  exact ⟨by rw [H.out];rfl,rfl⟩
theorem qd4 (a b:ByteArray) (w:World):Calls Tryz.prog 130 #[.string a,.string b] w fun e w'=>e=.returned (.bool (begB a b))/\w'=w:=by
 go_enter Tryz.func130,Tryz.ntmps130
 go_wp2_with (go_at_call 154;refine (qg4 _ _ _).mono ?_;rintro e w' ⟨rfl,rfl⟩)
 go_ret
 exact ⟨rfl,rfl⟩
theorem qev (s:ByteArray) (c:Int) (w:World) :
  Calls Tryz.prog 167 #[.string s,.int .u8 c] w fun e w'=>e=.returned (.int .i64 (Lib.indexByte s.data.toList c.toNat.toUInt8))/\w'=w:=by
 go_enter Tryz.func167,Tryz.ntmps167
 go_wp2
 rw [run_callFunc_extern Tryz.func176 (by kernel_rfl) (by kernel_rfl) (by kernel_rfl) (e:=Extern.BytealgIndexByte.indexByte) (by kernel_rfl),Lib.run_indexByteString]
 simp only [Result.andThen]
 rw [Oper.upon_value]
 go_wp2
 go_ret
 exact ⟨rfl,rfl⟩
theorem qf0 (s:ByteArray) (c:Int) (w:World) :
  Calls Tryz.prog 155 #[.string s,.int .u8 c] w fun e w'=>e=.returned (.int .i64 (Lib.indexByte s.data.toList c.toNat.toUInt8))/\w'=w:=by
 go_enter Tryz.func155,Tryz.ntmps155
 go_wp2_with (go_at_call 167;refine (qev _ _ _).mono ?_;rintro e w' ⟨rfl,rfl⟩)
 go_ret
 exact ⟨rfl,rfl⟩
theorem z9 (s:ByteArray) (a b:Nat):by8 (s.extract a b)=part (by8 s) a b:=by
 have:=ByteArray.extract_mk (by8 s) a b
 have e:ByteArray.mk (by8 s).toArray=s:=by unfold by8;simp
 rw [e] at this
 rw [this]
 unfold by8 part
 simp
theorem qjg (l:List UInt8) (i:Nat):part l i l.length=l.drop i:=by
 unfold part
 exact List.take_of_length_le (by simp)
theorem qjh (s:ByteArray) (i:Nat) (x y:UInt8) (hi:i<s.size):begB (s.extract i s.size) ⟨#[x,y]⟩=pre2 (x.toNat:Int) (y.toNat:Int) (by8 s) i:=by
 have hl:i<(by8 s).length:=by rw [qy];exact hi
 obtain ⟨b,hd,hb⟩:=qeq hl
 have e1:by8 (s.extract i s.size)=(by8 s).drop i:=by rw [z9,<-qy s,qjg]
 have e2:((s.extract i s.size).size:Int)=((by8 s).length - i:Nat):=by rw [<-qy,e1,List.length_drop]
 have e3:((s.extract i s.size).extract 0 2).toList=((by8 s).drop i).take 2:=by rw [xz,z9,e1];rfl
 have e4:(ByteArray.mk #[x,y]).toList=[x,y]:=by rw [xz];rfl
 have e5:(ByteArray.mk #[x,y]).size=2:=rfl
 unfold begB pre2
 rw [e5,e2,e3,e4,hd,hb]
 by_cases h:i+1<(by8 s).length
 ·obtain ⟨b',hd',hb'⟩:=qeq h
  rw [hd',hb']
  have h2:((2:Nat):Int)<=(((by8 s).length - i:Nat):Int):=by omega
  simp only [h2,h,decide_true,Bool.true_and,List.take_succ_cons,List.take_zero]
  have q:∀ a c:UInt8,((a.toNat:Int) == (c.toNat:Int))=(a == c):=by
   intro a c
   rw [Bool.eq_iff_iff]
   simp only [beq_iff_eq]
   constructor
   ·intro h;exact UInt8.toNat_inj.1 (by omega)
   ·intro h;rw [h]
  rw [q,q]
  simp only [List.cons_beq_cons]
  cases (b == x) <;> cases (b' == y) <;> rfl
 ·have h2:¬ ((2:Nat):Int)<=(((by8 s).length - i:Nat):Int):=by omega
  simp [h]
  intro h3
  omega
theorem qd5:∀ l:List UInt8,(Lib.indexByte l 10=-1/\xv noNl l=l.length)\/(0<=Lib.indexByte l 10/\(xv noNl l:Int)=Lib.indexByte l 10)
 | []=>.inl ⟨rfl,rfl⟩
 | b :: r=>by
  unfold Lib.indexByte xv
  by_cases h:b=10
  ·subst h
   right
   simp [noNl]
  ·have h1:(b == 10)=false:=by simpa using h
   have h2:noNl (b.toNat:Int)=true:=by
    unfold noNl
    simp only [bne_iff_ne,ne_eq]
    intro e
    exact h (UInt8.toNat_inj.1 (by show b.toNat=10;omega))
   rw [h1,h2]
   rcases qd5 r with ⟨e1,e2⟩ | ⟨e1,e2⟩
   ·left;simp [e1,e2]
   ·right
    have:(Lib.indexByte r 10 == -1)=false:=by simp;omega
    simp [this];omega
theorem qin (s:ByteArray) (i:Nat) (w:World) (hi:i<=s.size) (hs:s.size<=1048576) :
  Calls Tryz.prog 131 #[.string s,.int .i64 i] w fun e w'=>e=.returned (.int .i64 (runEnd noNl (by8 s) i))/\w'=w:=by
 have e1:(s.extract i s.size).data.toList=(by8 s).drop i:=by
  have:by8 (s.extract i s.size)=(by8 s).drop i:=by rw [z9,<-qy s,qjg]
  exact this
 have hx:=qd5 ((by8 s).drop i)
 have hle:=qdz noNl ((by8 s).drop i)
 rw [List.length_drop,qy] at hle
 have HC:=fun W=>qf0 (s.extract i s.size) 10 W
 rw [e1] at HC
 have e2:(10:Int).toNat.toUInt8=10:=rfl
 rw [e2] at HC
 generalize hn:Lib.indexByte ((by8 s).drop i) 10=n at HC hx
 have HR:Hid (((runEnd noNl (by8 s) i:Nat):Int)=if n=-1 then (s.size:Int) else i+n):=by
  show _=_
  unfold runEnd
  rcases hx with ⟨h1,h2⟩ | ⟨h1,h2⟩
  ·rw [if_pos h1,h2,List.length_drop,qy];omega
  ·rw [if_neg (by omega)];omega
 generalize runEnd noNl (by8 s) i=R at HR ⊢
 have HC2:Hid (∀ W:World,Calls Tryz.prog 155 #[.string (s.extract i s.size),.int .u8 10] W fun e w'=>e=.returned (.int .i64 n)/\w'=W):=HC
 clear HC e1 e2
 rcases hx with ⟨h1,h2⟩ | ⟨h1,h2⟩
 ·have h3:¬ 0<=n:=by omega
  have HR2:Hid ((R:Int)=s.size):=by have:=HR.out;rwa [if_pos h1] at this
  clear HR h2 hle hn h1
  go_enter Tryz.func131,Tryz.ntmps131
  go_wp2_with (go_at_call 155;refine (HC2.out _).mono ?_;rintro e w' ⟨rfl,rfl⟩)
  go_ret
  exact ⟨by rw [HR2.out];rfl,rfl⟩
 ·have HR2:Hid ((R:Int)=i+n):=by have:=HR.out;rwa [if_neg (by omega)] at this
  have h4:(i:Int)+n<=1048576:=by omega
  clear HR h2 hle hn
  go_enter Tryz.func131,Tryz.ntmps131
  go_wp2_with (go_at_call 155;refine (HC2.out _).mono ?_;rintro e w' ⟨rfl,rfl⟩)
  go_ret
  exact ⟨by rw [HR2.out];rfl,rfl⟩
theorem qnl {c:Int} (h:isB c=true):(c == 32)=true\/((c == 32)=false/\(c == 9)=true)\/((c == 32)=false/\(c == 9)=false/\(c == 10)=true):=by
 unfold isB at h
 cases h1:(c == 32) <;> cases h2:(c == 9) <;> cases h3:(c == 10) <;> simp_all
theorem qo8 {c:Int} (h:isB c=false):(c == 32)=false/\(c == 9)=false/\(c == 10)=false:=by
 unfold isB at h
 cases h1:(c == 32) <;> cases h2:(c == 9) <;> cases h3:(c == 10) <;> simp_all
theorem qf1 (s:ByteArray) (i:Nat) (w:World) (hi:i<=s.size) (hs:s.size<=1048576) :
  Calls Tryz.prog 118 #[.string s,.int .i64 i] w fun e w'=>e=.returned (.int .i64 (skip (by8 s) i))/\w'=w:=by
 have HL:Hid ((by8 s).length=s.size):=qy s
 go_enter Tryz.func118,Tryz.ntmps118
 go_wp2
 go_loop [1] (fun v=>∃ k f:Nat,k<=s.size/\v=.int .i64 k/\s.size<k+f/\Hid (skip (by8 s) i=xm f (by8 s) k)) (fun v=>s.size - (intOf v).toNat)
 case atStart=>exact ⟨i,s.size+1,hi,rfl,by omega,by show _=_;unfold skip;rw [HL.out]⟩
 case round =>
  obtain ⟨k,f,hk,rfl,hf,HR⟩:=hrel
  by_cases hlt:k<s.size
  ·have hix:=ku s k hlt
   have hl:k<(by8 s).length:=by rw [HL.out];exact hlt
   obtain ⟨f,rfl⟩:∃ g,f=g+1:=⟨f - 1,by omega⟩
   have HP:=fun W=>qd4 (s.extract k s.size) ⟨#[47,47]⟩ W
   rw [qjh s k 47 47 hlt] at HP
   have e47:((47:UInt8).toNat:Int)=47:=rfl
   rw [e47] at HP
   obtain ⟨c,hc⟩:∃ c,c=bt (by8 s) k:=⟨_,rfl⟩
   rw [<-hc] at hix
   by_cases h1:isB c=true
   ·have HN:Hid (skip (by8 s) i=xm f (by8 s) (k+1)):=by
     show _=_
     rw [HR.out,qc7 hl (by rw [<-hc];exact h1)]
    have h1:=qnl h1
    clear HR hl hc HP e47
    rcases h1 with h1 | ⟨h1,h2⟩ | ⟨h1,h2,h3⟩
    all_goals
     go_wp2
     go_round
     case rel=>exact ⟨k+1,f,by omega,by go_num,by omega,HN⟩
     case measure=>simp [intOf];omega
   ·have h1:isB c=false:=by simpa using h1
    obtain ⟨h2,h3,h4⟩:=qo8 h1
    by_cases h5:pre2 47 47 (by8 s) k=true
    ·have HN:Hid (skip (by8 s) i=xm f (by8 s) (runEnd noNl (by8 s) k)):=by
      show _=_
      rw [HR.out,qd0 hl (by rw [<-hc];exact h1) h5]
     have hm:=(qd2 h5).2
     have hle:runEnd noNl (by8 s) k<=s.size:=by rw [<-HL.out];exact jk (by omega)
     rw [h5] at HP
     have HP2:Hid (∀ W:World,Calls Tryz.prog 130 #[.string (s.extract k s.size),.string ⟨#[47,47]⟩] W fun e w'=>e=.returned (.bool true)/\w'=W):=HP
     have HE:Hid (∀ W:World,Calls Tryz.prog 131 #[.string s,.int .i64 k] W fun e w'=>e=.returned (.int .i64 (runEnd noNl (by8 s) k))/\w'=W):=fun W=>qin s k W hk hs
     generalize runEnd noNl (by8 s) k=m at HN hm hle HE
     clear HR hl hc HP e47 h1 h5
     go_wp2_with (first | (go_at_call 130;refine (HP2.out _).mono ?_;rintro e w' ⟨rfl,rfl⟩) | (go_at_call 131;refine (HE.out _).mono ?_;rintro e w' ⟨rfl,rfl⟩))
     go_round
     case rel=>exact ⟨m,f,by omega,by go_num,by omega,HN⟩
     case measure=>simp [intOf];omega
    ·have h5:pre2 47 47 (by8 s) k=false:=by simpa using h5
     have HN:Hid (skip (by8 s) i=k):=by
      show _=_
      rw [HR.out,qd1 (by rw [<-hc];exact h1) h5]
     rw [h5] at HP
     have HP2:Hid (∀ W:World,Calls Tryz.prog 130 #[.string (s.extract k s.size),.string ⟨#[47,47]⟩] W fun e w'=>e=.returned (.bool false)/\w'=W):=HP
     clear HR hl hc HP e47 h1 h5
     go_wp2_with (go_at_call 130;refine (HP2.out _).mono ?_;rintro e w' ⟨rfl,rfl⟩)
     go_ret
     exact ⟨by rw [HN.out];rfl,rfl⟩
  ·have HN:Hid (skip (by8 s) i=k):=by
    show _=_
    rw [HR.out,qfe (by rw [HL.out];omega)]
   clear HR
   go_wp2
   go_ret
   exact ⟨by rw [HN.out];rfl,rfl⟩
def ansW (p:Nat × Nat):Ending:=.returned (.tuple #[.int .i64 p.1,.int .i64 p.2])
theorem qmi (s:ByteArray) (i:Nat) (w:World) (hi:i<=s.size) (hs:s.size<=1048576) :
  Calls Tryz.prog 132 #[.string s,.int .i64 i] w fun e w'=>e=ansW (nameP (by8 s) i)/\w'=w:=by
 have HE:Hid (∀ W:World,Calls Tryz.prog 113 #[.string s,.int .i64 i] W fun e w'=>e=.returned (.int .i64 (runEnd isN (by8 s) i))/\w'=W):=fun W=>qbg s i W hi hs
 have h1:=vl isN (by8 s) i
 have h2:runEnd isN (by8 s) i<=s.size:=by rw [<-qy];exact jk (by rw [qy];exact hi)
 have HP:Hid (nameP (by8 s) i=if 12<runEnd isN (by8 s) i - i then (0,i) else (1,runEnd isN (by8 s) i)):=rfl
 generalize runEnd isN (by8 s) i=m at HE h1 h2 HP
 generalize nameP (by8 s) i=p at HP
 by_cases h:12<m - i
 ·have h3:(12:Int)<(m:Int) - i:=by omega
  have HP2:Hid (p=(0,i)):=by have:=HP.out;rwa [if_pos h] at this
  clear HP h
  go_enter Tryz.func132,Tryz.ntmps132
  go_wp2_with (go_at_call 113;refine (HE.out _).mono ?_;rintro e w' ⟨rfl,rfl⟩)
  go_ret2
  exact ⟨by rw [HP2.out];rfl,rfl⟩
 ·have h3:¬ (12:Int)<(m:Int) - i:=by omega
  have HP2:Hid (p=(1,m)):=by have:=HP.out;rwa [if_neg h] at this
  clear HP h
  go_enter Tryz.func132,Tryz.ntmps132
  go_wp2_with (go_at_call 113;refine (HE.out _).mono ?_;rintro e w' ⟨rfl,rfl⟩)
  go_ret2
  exact ⟨by rw [HP2.out];rfl,rfl⟩
theorem qkv {l:List UInt8} {i m:Nat} (h:4<m - i):jv l i m=true:=by unfold jv;simp [h]
theorem qkw {l:List UInt8} {i m:Nat} (h:1<m - i) (h2:(bt l i == 48)=true):jv l i m=true:=by unfold jv;simp [h];simp_all
theorem qkx {l:List UInt8} {i m:Nat} (h:m<l.length) (h2:isL (bt l m)=true):jv l i m=true:=by unfold jv;simp [h,h2]
theorem qf2 {l:List UInt8} {i m:Nat} (h:¬ 4<m - i) (h2:¬ 1<m - i\/(bt l i == 48)=false) (h3:¬ m<l.length\/isL (bt l m)=false):jv l i m=false:=by
 unfold jv
 rcases h2 with h2 | h2 <;> rcases h3 with h3 | h3 <;> simp [h,h2,h3]
theorem qji (s:ByteArray) (i:Nat) (w:World) (hi:i<s.size) (hs:s.size<=1048576) :
  Calls Tryz.prog 133 #[.string s,.int .i64 i] w fun e w'=>e=ansW (numberP (by8 s) i)/\w'=w:=by
 have HL:Hid ((by8 s).length=s.size):=qy s
 have h1:=vl isD (by8 s) i
 have h2:runEnd isD (by8 s) i<=s.size:=by rw [<-qy];exact jk (by rw [qy];omega)
 have HP:Hid (numberP (by8 s) i=if jv (by8 s) i (runEnd isD (by8 s) i)=true then (0,i) else (2,runEnd isD (by8 s) i)):=rfl
 obtain ⟨m,HM⟩:∃ m,Hid (runEnd isD (by8 s) i=m):=⟨_,rfl⟩
 rw [HM.out] at h1 h2 HP
 generalize numberP (by8 s) i=p at HP
 go_enter Tryz.func133,Tryz.ntmps133
 go_upto_block 0 with fail
 go_cut [5] (fun s5 wd=>s5=.int .i64 m/\wd=w)
 case first =>
  go_wp2_with fail
  go_loop [5] (fun v=>∃ j:Nat,i<=j/\j<=s.size/\v=.int .i64 j/\Hid (runEnd isD (by8 s) j=m)) (fun v=>s.size - (intOf v).toNat)
  case atStart=>exact ⟨i,Nat.le_refl _,by omega,rfl,HM⟩
  case round =>
   obtain ⟨j,hkj,hj,rfl,HJ⟩:=hrel
   by_cases hlt2:j<s.size
   ·have hix:=ku s j hlt2
    have hl:j<(by8 s).length:=by rw [HL.out];exact hlt2
    obtain ⟨d,hd⟩:∃ d,d=bt (by8 s) j:=⟨_,rfl⟩
    rw [<-hd] at hix
    by_cases h9:isD d=true
    ·have HE:Hid (runEnd isD (by8 s) (j+1)=m):=by
      show _=_
      rw [<-HJ.out]
      exact (kt hl (by rw [<-hd];exact h9)).symm
     clear hd HJ
     go_wp2_with (go_at_call 128;refine (je _ _).mono ?_;rintro e w' ⟨rfl,rfl⟩;rw [h9])
     go_round
     case rel=>exact ⟨j+1,by omega,by omega,by go_num,HE⟩
     case measure=>simp [intOf];omega
    ·have h9:isD d=false:=by simpa using h9
     have HE:Hid (m=j):=by
      show _=_
      rw [<-HJ.out,qcp hl (by rw [<-hd];exact h9)]
     clear hd HJ
     go_wp2_with (go_at_call 128;refine (je _ _).mono ?_;rintro e w' ⟨rfl,rfl⟩;rw [h9])
     go_meet
     exact ⟨by rw [HE.out],rfl⟩
   ·have HE:Hid (m=j):=by
     show _=_
     rw [<-HJ.out,qc6 (by rw [HL.out];omega)]
    clear HJ
    go_wp2
    go_meet
    exact ⟨by rw [HE.out],rfl⟩
 case rest =>
  obtain ⟨rfl,rfl⟩:=hcut
  have hix:=ku s i hi
  by_cases h4:4<m - i
  ·have HP2:Hid (p=(0,i)):=by have:=HP.out;rwa [if_pos (qkv h4)] at this
   have h5:(4:Int)<(m:Int) - i:=by omega
   clear HP h4 HM hix
   go_wp2_with fail
   go_ret2
   exact ⟨by rw [HP2.out];rfl,rfl⟩
  ·by_cases h6:1<m - i/\(bt (by8 s) i == 48)=true
   ·have HP2:Hid (p=(0,i)):=by have:=HP.out;rwa [if_pos (qkw h6.1 h6.2)] at this
    have h5:¬ (4:Int)<(m:Int) - i:=by omega
    have h7:(1:Int)<(m:Int) - i:=by omega
    have h8:=h6.2
    clear HP h4 HM h6
    generalize bt (by8 s) i=c at hix h8
    go_wp2_with fail
    go_ret2
    exact ⟨by rw [HP2.out];rfl,rfl⟩
   ·have h7:¬ 1<m - i\/(1<m - i/\(bt (by8 s) i == 48)=false):=by
     by_cases h:1<m - i
     ·exact .inr ⟨h,by simpa [h] using h6⟩
     ·exact .inl h
    have h7':¬ 1<m - i\/(bt (by8 s) i == 48)=false:=h7.imp id And.right
    have h5:¬ (4:Int)<(m:Int) - i:=by omega
    by_cases h8:m<s.size
    ·have hix2:=ku s m h8
     have h8l:m<(by8 s).length:=by rw [HL.out];exact h8
     by_cases h9:isL (bt (by8 s) m)=true
     ·have HP2:Hid (p=(0,i)):=by have:=HP.out;rwa [if_pos (qkx h8l h9)] at this
      clear HP h4 HM h6 h7' h8l
      generalize bt (by8 s) m=d at hix2 h9
      generalize bt (by8 s) i=c at hix h7
      rcases h7 with h7 | ⟨h7,h10⟩
      ·have h7:¬ (1:Int)<(m:Int) - i:=by omega
       go_wp2_with (go_at_call 112;refine (zx _ _).mono ?_;rintro e w' ⟨rfl,rfl⟩;rw [h9])
       go_ret2
       exact ⟨by rw [HP2.out];rfl,rfl⟩
      ·have h7:(1:Int)<(m:Int) - i:=by omega
       go_wp2_with (go_at_call 112;refine (zx _ _).mono ?_;rintro e w' ⟨rfl,rfl⟩;rw [h9])
       go_ret2
       exact ⟨by rw [HP2.out];rfl,rfl⟩
     ·have h9:isL (bt (by8 s) m)=false:=by simpa using h9
      have HP2:Hid (p=(2,m)):=by have:=HP.out;rwa [qf2 h4 h7' (.inr h9),if_neg (by simp)] at this
      clear HP h4 HM h6 h7' h8l
      generalize bt (by8 s) m=d at hix2 h9
      generalize bt (by8 s) i=c at hix h7
      rcases h7 with h7 | ⟨h7,h10⟩
      ·have h7:¬ (1:Int)<(m:Int) - i:=by omega
       go_wp2_with (go_at_call 112;refine (zx _ _).mono ?_;rintro e w' ⟨rfl,rfl⟩;rw [h9])
       go_ret2
       exact ⟨by rw [HP2.out];rfl,rfl⟩
      ·have h7:(1:Int)<(m:Int) - i:=by omega
       go_wp2_with (go_at_call 112;refine (zx _ _).mono ?_;rintro e w' ⟨rfl,rfl⟩;rw [h9])
       go_ret2
       exact ⟨by rw [HP2.out];rfl,rfl⟩
    ·have h8l:¬ m<(by8 s).length:=by rw [HL.out];exact h8
     have HP2:Hid (p=(2,m)):=by have:=HP.out;rwa [qf2 h4 h7' (.inl h8l),if_neg (by simp)] at this
     clear HP h4 HM h6 h7' h8l
     generalize bt (by8 s) i=c at hix h7
     rcases h7 with h7 | ⟨h7,h10⟩
     ·have h7:¬ (1:Int)<(m:Int) - i:=by omega
      go_wp2_with fail
      go_ret2
      exact ⟨by rw [HP2.out];rfl,rfl⟩
     ·have h7:(1:Int)<(m:Int) - i:=by omega
      go_wp2_with fail
      go_ret2
      exact ⟨by rw [HP2.out];rfl,rfl⟩
theorem qnm (t:List UInt8):(j2.contains t=true/\(((t == [116,111,107,101,110])=true)\/((t == [116,111,107,101,110])=false/\(t == [108,101,102,116])=true)\/((t == [116,111,107,101,110])=false/\(t == [108,101,102,116])=false/\(t == [114,105,103,104,116])=true)\/((t == [116,111,107,101,110])=false/\(t == [108,101,102,116])=false/\(t == [114,105,103,104,116])=false/\(t == [110,111,110,97,115,115,111,99])=true)\/((t == [116,111,107,101,110])=false/\(t == [108,101,102,116])=false/\(t == [114,105,103,104,116])=false/\(t == [110,111,110,97,115,115,111,99])=false/\(t == [115,116,97,114,116])=true)\/((t == [116,111,107,101,110])=false/\(t == [108,101,102,116])=false/\(t == [114,105,103,104,116])=false/\(t == [110,111,110,97,115,115,111,99])=false/\(t == [115,116,97,114,116])=false/\(t == [101,120,112,101,99,116])=true)\/((t == [116,111,107,101,110])=false/\(t == [108,101,102,116])=false/\(t == [114,105,103,104,116])=false/\(t == [110,111,110,97,115,115,111,99])=false/\(t == [115,116,97,114,116])=false/\(t == [101,120,112,101,99,116])=false/\(t == [112,114,101,99])=true)))\/(j2.contains t=false/\(t == [116,111,107,101,110])=false/\(t == [108,101,102,116])=false/\(t == [114,105,103,104,116])=false/\(t == [110,111,110,97,115,115,111,99])=false/\(t == [115,116,97,114,116])=false/\(t == [101,120,112,101,99,116])=false/\(t == [112,114,101,99])=false):=by
 have e:j2.contains t=((t == [116,111,107,101,110]) || (t == [108,101,102,116]) || (t == [114,105,103,104,116]) || (t == [110,111,110,97,115,115,111,99]) || (t == [115,116,97,114,116]) || (t == [101,120,112,101,99,116]) || (t == [112,114,101,99])):=by
  unfold j2
  simp only [List.contains_cons,List.contains_nil,Bool.or_false,Bool.or_assoc]
 rw [e]
 cases h0:(t == [116,111,107,101,110])
 case true=>simp
 cases h1:(t == [108,101,102,116])
 case true=>simp
 cases h2:(t == [114,105,103,104,116])
 case true=>simp
 cases h3:(t == [110,111,110,97,115,115,111,99])
 case true=>simp
 cases h4:(t == [115,116,97,114,116])
 case true=>simp
 cases h5:(t == [101,120,112,101,99,116])
 case true=>simp
 cases h6:(t == [112,114,101,99])
 case true=>simp
 simp
theorem qnn (s:ByteArray) (i:Nat) (w:World) (hi:i<s.size) (hs:s.size<=1048576) :
  Calls Tryz.prog 134 #[.string s,.int .i64 i] w fun e w'=>e=ansW (keyP (by8 s) i)/\w'=w:=by
 have HL:Hid ((by8 s).length=s.size):=qy s
 have HP:=fun W=>qd4 (s.extract i s.size) ⟨#[37,37]⟩ W
 rw [qjh s i 37 37 hi] at HP
 have e47:((37:UInt8).toNat:Int)=37:=rfl
 rw [e47] at HP
 have HE:Hid (∀ W:World,Calls Tryz.prog 113 #[.string s,.int .i64 ((i:Int)+1)] W fun e w'=>e=.returned (.int .i64 (runEnd isN (by8 s) (i+1)))/\w'=W):=fun W=>by
  have:=qbg s (i+1) W (by omega) hs
  simpa using this
 have h1:=vl isN (by8 s) (i+1)
 have h2:runEnd isN (by8 s) (i+1)<=s.size:=by rw [<-qy];exact jk (by rw [qy];omega)
 have HK:Hid (keyP (by8 s) i=if pre2 37 37 (by8 s) i=true then (4,i+2) else if j2.contains (part (by8 s) (i+1) (runEnd isN (by8 s) (i+1)))=true then (4,runEnd isN (by8 s) (i+1)) else (0,i)):=rfl
 generalize runEnd isN (by8 s) (i+1)=m at HE h1 h2 HK
 generalize keyP (by8 s) i=p at HK
 clear e47
 by_cases h3:pre2 37 37 (by8 s) i=true
 ·have HK2:Hid (p=(4,i+2)):=by have:=HK.out;rwa [if_pos h3] at this
  rw [h3] at HP
  have HP2:Hid (∀ W:World,Calls Tryz.prog 130 #[.string (s.extract i s.size),.string ⟨#[37,37]⟩] W fun e w'=>e=.returned (.bool true)/\w'=W):=HP
  clear HP HK h3
  go_enter Tryz.func134,Tryz.ntmps134
  go_wp2_with (go_at_call 130;refine (HP2.out _).mono ?_;rintro e w' ⟨rfl,rfl⟩)
  go_ret2
  exact ⟨by rw [HK2.out];rfl,rfl⟩
 ·have h3:pre2 37 37 (by8 s) i=false:=by simpa using h3
  have HK2:Hid (p=if j2.contains (part (by8 s) (i+1) m)=true then (4,m) else (0,i)):=by have:=HK.out;rwa [h3,if_neg (by simp)] at this
  rw [h3] at HP
  have HP2:Hid (∀ W:World,Calls Tryz.prog 130 #[.string (s.extract i s.size),.string ⟨#[37,37]⟩] W fun e w'=>e=.returned (.bool false)/\w'=W):=HP
  clear HP HK h3
  have ht:(s.extract (i+1) m).toList=part (by8 s) (i+1) m:=by rw [xz,z9]
  have hk:=qnm (part (by8 s) (i+1) m)
  rcases hk with ⟨h4,hk⟩ | ⟨h4,hk⟩
  ·have HK3:Hid (p=(4,m)):=by have:=HK2.out;rwa [if_pos h4] at this
   rw [<-ht] at hk
   clear HK2 h4 ht
   rcases hk with k0 | ⟨k0,k1⟩ | ⟨k0,k1,k2⟩ | ⟨k0,k1,k2,k3⟩ | ⟨k0,k1,k2,k3,k4⟩ | ⟨k0,k1,k2,k3,k4,k5⟩ | ⟨k0,k1,k2,k3,k4,k5,k6⟩
   all_goals
    go_enter Tryz.func134,Tryz.ntmps134
    go_wp2_with (first | (go_at_call 130;refine (HP2.out _).mono ?_;rintro e w' ⟨rfl,rfl⟩) | (go_at_call 113;refine (HE.out _).mono ?_;rintro e w' ⟨rfl,rfl⟩))
    go_ret2
    exact ⟨by rw [HK3.out];rfl,rfl⟩
  ·have HK3:Hid (p=(0,i)):=by have:=HK2.out;rwa [h4,if_neg (by simp)] at this
   rw [<-ht] at hk
   clear HK2 h4 ht
   obtain ⟨k0,k1,k2,k3,k4,k5,k6⟩:=hk
   go_enter Tryz.func134,Tryz.ntmps134
   go_wp2_with (first | (go_at_call 130;refine (HP2.out _).mono ?_;rintro e w' ⟨rfl,rfl⟩) | (go_at_call 113;refine (HE.out _).mono ?_;rintro e w' ⟨rfl,rfl⟩))
   go_ret2
   exact ⟨by rw [HK3.out];rfl,rfl⟩
theorem yh {B:Nat} {a w:World} (h:Below B a w) (n:Nat):Below B a (w.drewN n):=⟨h.os,h.tape,h.output,h.size,h.block⟩
theorem qd {w w1 w2:World} (h:Below w.heap.size w w1) (k:Below w1.heap.size w1 w2):Below w.heap.size w w2:=h.trans (k.mono h.size)
theorem qno {c:Int} (h:isS c=true):(c == 58)=true\/((c == 58)=false/\(c == 124)=true)\/((c == 58)=false/\(c == 124)=false/\(c == 59)=true):=by
 unfold isS at h
 cases h1:(c == 58) <;> cases h2:(c == 124) <;> cases h3:(c == 59) <;> simp_all
theorem qo9 {c:Int} (h:isS c=false):(c == 58)=false/\(c == 124)=false/\(c == 59)=false:=by
 unfold isS at h
 cases h1:(c == 58) <;> cases h2:(c == 124) <;> cases h3:(c == 59) <;> simp_all
theorem qmj (s:ByteArray) (i:Nat) (w:World) (hi:i<s.size) (hs:s.size<=1048576) :
  Calls Tryz.prog 119 #[.string s,.int .i64 i] w fun e w'=>e=ansW (wordP (by8 s) i)/\w'=w:=by
 have hix:=ku s i hi
 have HN:Hid (∀ W:World,Calls Tryz.prog 132 #[.string s,.int .i64 i] W fun e w'=>e=ansW (nameP (by8 s) i)/\w'=W):=fun W=>qmi s i W (by omega) hs
 have HD:Hid (∀ W:World,Calls Tryz.prog 133 #[.string s,.int .i64 i] W fun e w'=>e=ansW (numberP (by8 s) i)/\w'=W):=fun W=>qji s i W hi hs
 have HK:Hid (∀ W:World,Calls Tryz.prog 134 #[.string s,.int .i64 i] W fun e w'=>e=ansW (keyP (by8 s) i)/\w'=W):=fun W=>qnn s i W hi hs
 by_cases h1:isL (bt (by8 s) i)=true
 ·have HP:Hid (wordP (by8 s) i=nameP (by8 s) i):=qab h1
  generalize wordP (by8 s) i=p at HP
  generalize nameP (by8 s) i=r at HP HN
  generalize bt (by8 s) i=c at hix h1
  clear HD HK
  go_enter Tryz.func119,Tryz.ntmps119
  go_wp2_with (first | (go_at_call 112;refine (zx _ _).mono ?_;rintro e w' ⟨rfl,rfl⟩;rw [h1]) | (go_at_call 132;refine (HN.out _).mono ?_;rintro e w' ⟨rfl,rfl⟩;unfold ansW))
  go_ret2
  exact ⟨by rw [HP.out];rfl,rfl⟩
 ·have h1:isL (bt (by8 s) i)=false:=by simpa using h1
  by_cases h2:isD (bt (by8 s) i)=true
  ·have HP:Hid (wordP (by8 s) i=numberP (by8 s) i):=qa8 h1 h2
   generalize wordP (by8 s) i=p at HP
   generalize numberP (by8 s) i=r at HP HD
   generalize bt (by8 s) i=c at hix h1 h2
   clear HN HK
   go_enter Tryz.func119,Tryz.ntmps119
   go_wp2_with (first | (go_at_call 112;refine (zx _ _).mono ?_;rintro e w' ⟨rfl,rfl⟩;rw [h1]) | (go_at_call 128;refine (je _ _).mono ?_;rintro e w' ⟨rfl,rfl⟩;rw [h2]) | (go_at_call 133;refine (HD.out _).mono ?_;rintro e w' ⟨rfl,rfl⟩;unfold ansW))
   go_ret2
   exact ⟨by rw [HP.out];rfl,rfl⟩
  ·have h2:isD (bt (by8 s) i)=false:=by simpa using h2
   by_cases h3:(bt (by8 s) i == 37)=true
   ·have HP:Hid (wordP (by8 s) i=keyP (by8 s) i):=qa9 h1 h2 h3
    generalize wordP (by8 s) i=p at HP
    generalize keyP (by8 s) i=r at HP HK
    generalize bt (by8 s) i=c at hix h1 h2 h3
    clear HN HD
    go_enter Tryz.func119,Tryz.ntmps119
    go_wp2_with (first | (go_at_call 112;refine (zx _ _).mono ?_;rintro e w' ⟨rfl,rfl⟩;rw [h1]) | (go_at_call 128;refine (je _ _).mono ?_;rintro e w' ⟨rfl,rfl⟩;rw [h2]) | (go_at_call 134;refine (HK.out _).mono ?_;rintro e w' ⟨rfl,rfl⟩;unfold ansW))
    go_ret2
    exact ⟨by rw [HP.out];rfl,rfl⟩
   ·have h3:(bt (by8 s) i == 37)=false:=by simpa using h3
    by_cases h4:isS (bt (by8 s) i)=true
    ·have HP:Hid (wordP (by8 s) i=(3,i+1)):=qac h1 h2 h3 h4
     have h4:=qno h4
     generalize wordP (by8 s) i=p at HP
     generalize bt (by8 s) i=c at hix h1 h2 h3 h4
     clear HN HD HK
     rcases h4 with h4 | ⟨h4,h5⟩ | ⟨h4,h5,h6⟩
     all_goals
      go_enter Tryz.func119,Tryz.ntmps119
      go_wp2_with (first | (go_at_call 112;refine (zx _ _).mono ?_;rintro e w' ⟨rfl,rfl⟩;rw [h1]) | (go_at_call 128;refine (je _ _).mono ?_;rintro e w' ⟨rfl,rfl⟩;rw [h2]))
      go_ret2
      exact ⟨by rw [HP.out];rfl,rfl⟩
    ·have h4:isS (bt (by8 s) i)=false:=by simpa using h4
     have HP:Hid (wordP (by8 s) i=(0,i)):=qbl h1 h2 h3 h4
     obtain ⟨h5,h6,h7⟩:=qo9 h4
     generalize wordP (by8 s) i=p at HP
     generalize bt (by8 s) i=c at hix h1 h2 h3 h4 h5 h6 h7
     clear HN HD HK h4
     go_enter Tryz.func119,Tryz.ntmps119
     go_wp2_with (first | (go_at_call 112;refine (zx _ _).mono ?_;rintro e w' ⟨rfl,rfl⟩;rw [h1]) | (go_at_call 128;refine (je _ _).mono ?_;rintro e w' ⟨rfl,rfl⟩;rw [h2]))
     go_ret2
     exact ⟨by rw [HP.out];rfl,rfl⟩
theorem qio (s:ByteArray) (w:World) (hlim:s.size<=1048576) :
  Calls Tryz.prog 135 #[.string s] w fun e w'=>e=.returned (.string s)/\Below w.heap.size w w':=by
 by_cases h0:s.size=0
 ·have hs:s=⟨#[]⟩:=by
   apply ByteArray.ext
   exact Array.eq_empty_of_size_eq_zero h0
  subst hs
  go_enter Tryz.func135,Tryz.ntmps135
  go_wp2
  go_ret
  exact ⟨rfl,Below.refl _ _⟩
 ·obtain ⟨i0,hi,hz0,hz1,hz2⟩:=info_parts Tryz.info5
  have hinfo:(Tryz.prog.info? 5).map (·.size)=some 1:=by rw [hi];simp [hz1]
  have hco:Tryz.prog.cellsOf 5=1:=by simp [Program.cellsOf,hi,hz1]
  obtain ⟨M,hM⟩:∃ M,M=madeCells (Value.int .u8 0).cells (((s.size:Nat):Int).toNat * i0.size):=⟨_,rfl⟩
  have hMs:M.size=s.size:=by rw [hM,size_madeCells,hz1];simp
  have hmk:∀ W:World,(Instr.makeSlice 56 (.int .i64 (s.size:Int)) (.int .i64 (s.size:Int))).run Tryz.prog W=.ok (.slice (some ⟨W.heap.size,0,none⟩) s.size s.size) (W.alloc (.cells M 5)):=fun W=>by
   have h:=run_make (P:=Tryz.prog) W 56 5 i0 (.int .u8 0) Tryz.underlying56 hi hz0 .i64 .i64 (s.size:Int) (s.size:Int) (by omega) (by omega) (by rw [hz2];omega) (by omega)
   rw [<-hM] at h
   simpa using h
  clear hM
  have hcp:=Lib.run_copy_row_string (P:=Tryz.prog) (w.alloc (.cells M 5)) 56 9 3 5 w.heap.size 0 s.size s.size s M 5 Tryz.underlying56 hinfo (heap_alloc_new w _) (Nat.le_refl _) (by omega)
  obtain ⟨Y,hY⟩:∃ Y,Y=(M.toList.take 0++Lib.byteCells s.data.toList++M.toList.drop (0+s.size)).toArray:=⟨_,rfl⟩
  rw [<-hY] at hcp
  have hYl:Y.toList=Lib.byteCells s.data.toList:=by
   rw [hY,List.toList_toArray,List.take_zero,List.nil_append,List.drop_of_length_le (by rw [Array.length_toList];omega),List.append_nil]
  have hYs:Y.size=s.size:=by rw [<-Array.length_toList,hYl,Lib.byteCells_length,<-Lib.size_eq]
  have hgY:((w.alloc (.cells M 5)).setRow w.heap.size Y).heap[w.heap.size]?=some (.cells Y 5 (0,0)):=setRow_heap _ _ M _ 5 (0,0) (heap_alloc_new w _)
  have hne:s.data.toList≠[]:=fun e=>h0 (by rw [Lib.size_eq,e];rfl)
  have hUS:=Lib.run_unsafeString_row (P:=Tryz.prog) ((w.alloc (.cells M 5)).setRow w.heap.size Y) 175 3 9 5 Tryz.underlying175 hco w.heap.size Y.size (by unfold World.shape?;rw [hgY]) s.data.toList hne (by rw [<-Lib.size_eq];omega) (by rw [<-Lib.size_eq];omega)
   (fun j x hx=>Lib.cells_of_row hgY Y.size j _ (by rw [List.take_of_length_le (by rw [Array.length_toList];exact Nat.le_refl _),hYl];simp [Lib.byteCells,hx]))
  rw [<-Lib.size_eq] at hUS
  clear hY
  go_enter Tryz.func135,Tryz.ntmps135
  go_wp2
  go_ret
  have hb1:Below w.heap.size w (w.alloc (.cells M 5)):=(Below.refl _ w).alloc (Nat.le_refl _) _
  have hb2:Below w.heap.size (w.alloc (.cells M 5)) ((w.alloc (.cells M 5)).setRow w.heap.size Y):=⟨rfl,rfl,rfl,by simp,fun k hk=>setRow_other _ _ _ _ (by omega)⟩
  exact ⟨rfl,Lib.below_freeze (hb1.trans hb2) (p:=⟨w.heap.size,0,none⟩) (Nat.le_refl _) _⟩
theorem qky (s:ByteArray) (w:World) (hlim:s.size<=1048576) :
  Calls Tryz.prog 120 #[.string s] w fun e w'=>e=.returned (.string s)/\Below w.heap.size w w':=by
 have HC:Hid (Calls Tryz.prog 135 #[.string s] w fun e w'=>e=.returned (.string s)/\Below w.heap.size w w'):=qio s w hlim
 go_enter Tryz.func120,Tryz.ntmps120
 go_wp2_with (go_at_call 135;refine HC.out.mono ?_;rintro e w' ⟨rfl,hB⟩)
 go_ret
 exact ⟨rfl,hB⟩
theorem Tryz.info149:(Tryz.prog.info? 149).map (fun i=>(i.zero,i.size,i.bytes))=some (some (.agg #[.int .i64 0,.string ⟨#[]⟩,.int .i64 0]),3,32):=by kernel_rfl
def qae (s:ByteArray) (x:Nat × Nat × Nat):List Value:=[.int .i64 x.1,.string (s.extract x.2.1 x.2.2),.int .i64 x.2.1]
def jw (s:ByteArray) (ws:List (Nat × Nat × Nat)):List Value:=ws.flatMap (qae s)
theorem qip (s:ByteArray) (a:List (Nat × Nat × Nat)) (x:Nat × Nat × Nat):jw s (a++[x])=jw s a++qae s x:=by
 unfold jw;rw [List.flatMap_append];simp
def IsW (w:World) (base:Nat) (s:ByteArray) (v:Value) (ws:List (Nat × Nat × Nat)):Prop:=w.ownsRow base 149 3 v ws.length (jw s ws)
theorem qlw (w:World) (base:Nat) (s:ByteArray):IsW w base s (.slice none 0 0) []:=World.ownsRow_nil w base 149 3
theorem qh {w w':World} {base:Nat} {E:TypeId} {k:Nat} {v:Value} {n:Nat} {cs:List Value} (h:w.ownsRow base E k v n cs) (hb:∀ i,v.ownBlock=some i->w'.heap[i]?=w.heap[i]?):w'.ownsRow base E k v n cs:=by
 refine ⟨h.1,?_⟩
 rcases h.2 with hn | ⟨g,cap,cur,rfl,hg,hh,r⟩
 ·exact .inl hn
 ·exact .inr ⟨g,cap,cur,rfl,hg,by rw [hb g rfl];exact hh,r⟩
theorem IsW.below {w w':World} {base:Nat} {s:ByteArray} {v:Value} {ws:List (Nat × Nat × Nat)} (h:IsW w base s v ws) (hb:Below w.heap.size w w'):IsW w' base s v ws :=
 qh h (fun i hi=>hb.block i (World.ownsRow.lt h i hi).2)
theorem IsW.add {w:World} {base:Nat} {s:ByteArray} {v:Value} {ws:List (Nat × Nat × Nat)} (h:IsW w base s v ws) (hb:base<=w.heap.size) (hn:ws.length<=1048577) (k i e:Nat) :
  ∃ ao n c w',(Builtin.append_ #[134,134] 134 #[v,.slice (some ⟨w.heap.size,0,none⟩) 1 1]).run Tryz.prog (w.alloc (.cells #[.int .i64 k,.string (s.extract i e),.int .i64 i] 149))=.ok (.slice ao n c) w' /\
   IsW w' base s (.slice ao n c) (ws++[(k,i,e)])/\Below base w w':=by
 obtain ⟨i0,hi,hz0,hz1,hz2⟩:=info_parts Tryz.info149
 have hA:(w.alloc (.cells #[.int .i64 k,.string (s.extract i e),.int .i64 i] 149)).ownsRow base 149 3 v ws.length (jw s ws):=World.ownsRow.alloc h _
 have hnews:∀ j u,(qae s (k,i,e))[j]?=some u->(w.alloc (.cells #[.int .i64 k,.string (s.extract i e),.int .i64 i] 149)).cell? ((⟨w.heap.size,0,none⟩:Addr).add j)=some u:=by
  intro j u hu
  rw [Addr.add_lit,Nat.zero_add]
  have:=World.cell?_alloc_mark w #[.int .i64 k,.string (s.extract i e),.int .i64 i] 149 (0,0) j
  rw [this,<-hu]
  unfold qae
  simp
 obtain ⟨v',w',hr,h2,h3,-⟩:=run_append_own (P:=Tryz.prog) (w.alloc (.cells #[.int .i64 k,.string (s.extract i e),.int .i64 i] 149)) base 134 134 149 i0 _ 3 32 Tryz.underlying134 hi hz0 hz1 hz2 rfl (by decide) v ws.length _ hA ⟨w.heap.size,0,none⟩ 1 1 (qae s (k,i,e)) rfl hnews
  (fun u hu=>by unfold qae at hu;simp at hu;rcases hu with rfl | rfl | rfl <;> rfl) (by unfold maxLen;omega) (by omega) (by simp;omega)
 have hB:Below base w w':=((Below.refl base w).alloc hb _).grown h3 (by simp;omega) (fun g hg=>(World.ownsRow.lt h g hg).1)
 have hW:IsW w' base s v' (ws++[(k,i,e)]):=by
  unfold IsW
  rw [qip,List.length_append]
  exact h2
 rcases h2.2 with ⟨rfl,h0⟩ | ⟨g,cap,cur,rfl,-⟩
 ·omega
 ·exact ⟨_,_,_,w',hr,hW,hB⟩
theorem qjj (s:ByteArray) (a b:Nat):(s.extract a b).size<=s.size:=by
 rw [<-qy,z9,<-qy]
 unfold part
 rw [List.length_take,List.length_drop]
 omega
def qap (s:ByteArray) (w w':World) (e:Ending):Prop:=∃ v,e=.returned (.tuple #[v,.int .i64 (scan (by8 s)).2])/\IsW w' w.heap.size s v (scan (by8 s)).1/\Below w.heap.size w w'
theorem qew (s:ByteArray):s.extract s.size s.size=⟨#[]⟩:=by
 apply ByteArray.ext
 apply Array.eq_empty_of_size_eq_zero
 have:=z9 s s.size s.size
 have h2:(by8 (s.extract s.size s.size)).length=0:=by rw [this];unfold part;simp
 rw [qy] at h2
 exact h2
theorem qbm (s:ByteArray) (w:World) (hs:s.size<=1048576):Calls Tryz.prog 108 #[.string s] w fun e w'=>qap s w w' e:=by
 have HL:Hid ((by8 s).length=s.size):=qy s
 have HS0:Hid (∀ W:World,Calls Tryz.prog 118 #[.string s,.int .i64 0] W fun e w'=>e=.returned (.int .i64 (skip (by8 s) 0))/\w'=W):=fun W=>qf1 s 0 W (Nat.zero_le _) hs
 have h00:skip (by8 s) 0<=s.size:=by rw [<-qy];exact (qbs (Nat.zero_le _)).2
 obtain ⟨R,HR⟩:∃ R,Hid (scan (by8 s)=R):=⟨_,rfl⟩
 have HR0:Hid (kr (s.size+1) (by8 s) (skip (by8 s) 0) []=R):=by
  have:=HR.out
  unfold scan at this
  rwa [HL.out] at this
 unfold qap
 rw [HR.out]
 generalize skip (by8 s) 0=a0 at HS0 h00 HR0
 go_enter Tryz.func108,Tryz.ntmps108
 go_wp2_with (go_at_call 118;refine (HS0.out _).mono ?_;rintro e w' ⟨rfl,rfl⟩)
 go_loopg [4,5] s.size (fun kx s4 s5 wr=>∃ (k:Nat) (ml:Nat × Option Addr × Nat),s4=.slice ml.2.1 ml.1 ml.2.2/\s5=.int .i64 k/\k<=s.size/\s.size - k<=kx/\Hid (∃ f acc,s.size<k+f/\acc.length<=k/\kr f (by8 s) k acc=R/\IsW wr w'.heap.size s (.slice ml.2.1 ml.1 ml.2.2) acc/\Below w'.heap.size w' wr))
 case atStart=>exact ⟨a0,(0,none,0),rfl,rfl,h00,by omega,(⟨s.size+1,[],by omega,Nat.zero_le _,HR0.out,qlw _ _ _,Below.refl _ _⟩:∃ f acc,s.size<a0+f/\acc.length<=a0/\kr f (by8 s) a0 acc=R/\IsW w' w'.heap.size s (.slice none 0 0) acc/\Below w'.heap.size w' w')⟩
 case round =>
  obtain ⟨k,⟨nl,al,cl⟩,rfl,rfl,hk,hg,J⟩:=hrel
  simp only at J
  by_cases hlt:k<s.size
  ·have hl:k<(by8 s).length:=by rw [HL.out];exact hlt
   have HW:Hid (∀ W:World,Calls Tryz.prog 119 #[.string s,.int .i64 k] W fun e w'=>e=ansW (wordP (by8 s) k)/\w'=W):=fun W=>qmj s k W hlt hs
   have hwr:=yg hl
   rw [HL.out] at hwr
   by_cases hz:(wordP (by8 s) k).1=0
   ·have HR2:Hid (R=([],(k:Int))):=by
     obtain ⟨f,acc,hf,-,he,-⟩:=J.out
     obtain ⟨f,rfl⟩:∃ g,f=g+1:=⟨f - 1,by omega⟩
     rw [qby hl hz] at he
     exact he.symm
    have HB:Hid (Below w'.heap.size w' wr):=by obtain ⟨f,acc,-,-,-,-,hb⟩:=J.out;exact hb
    have HW2:Hid (∀ W:World,Calls Tryz.prog 119 #[.string s,.int .i64 k] W fun e w'=>e=.returned (.tuple #[.int .i64 0,.int .i64 (wordP (by8 s) k).2])/\w'=W):=fun W=>by
     have:=HW.out W
     unfold ansW at this
     rwa [hz] at this
    generalize (wordP (by8 s) k).2=e0 at HW2
    clear HW J hwr hz hl
    go_wp2_with (go_at_call 119;refine (HW2.out _).mono ?_;rintro e w' ⟨rfl,rfl⟩)
    go_ret2
    exact ⟨_,by rw [HR2.out];rfl,by rw [HR2.out];exact qlw _ _ _,HB.out⟩
   ·have hZ:(((wordP (by8 s) k).1:Int) == 0)=false:=by simpa using hz
    have hadv:=hwr.2.2.1 hz
    have hle:=hwr.2.1
    have HSk:Hid (∀ W:World,Calls Tryz.prog 118 #[.string s,.int .i64 (wordP (by8 s) k).2] W fun e w'=>e=.returned (.int .i64 (skip (by8 s) (wordP (by8 s) k).2))/\w'=W):=fun W=>qf1 s _ W hle hs
    have hsk:=qbs (l:=by8 s) (i:=(wordP (by8 s) k).2) (by rw [HL.out];exact hle)
    rw [HL.out] at hsk
    have J2:Hid (∃ f acc,s.size<skip (by8 s) (wordP (by8 s) k).2+f/\acc.length<=k/\kr f (by8 s) (skip (by8 s) (wordP (by8 s) k).2) (acc++[((wordP (by8 s) k).1,k,(wordP (by8 s) k).2)])=R/\IsW wr w'.heap.size s (.slice al nl cl) acc/\Below w'.heap.size w' wr):=by
     obtain ⟨f,acc,hf,ha,he,hI,hB⟩:=J.out
     obtain ⟨f,rfl⟩:∃ g,f=g+1:=⟨f - 1,by omega⟩
     rw [y8 hl hz] at he
     exact ⟨f,acc,by omega,ha,he,hI,hB⟩
    have HW2:Hid (∀ W:World,Calls Tryz.prog 119 #[.string s,.int .i64 k] W fun e w'=>e=.returned (.tuple #[.int .i64 (wordP (by8 s) k).1,.int .i64 (wordP (by8 s) k).2])/\w'=W):=HW.out
    have HC:Hid (∀ W:World,Calls Tryz.prog 120 #[.string (s.extract k (wordP (by8 s) k).2)] W fun e w'=>e=.returned (.string (s.extract k (wordP (by8 s) k).2))/\Below W.heap.size W w'):=fun W=>qky _ W (by have:=qjj s k (wordP (by8 s) k).2;omega)
    generalize skip (by8 s) (wordP (by8 s) k).2=a1 at HSk hsk J2
    generalize wordP (by8 s) k=pr at HW2 hZ hadv hle HSk hsk J2 HC
    obtain ⟨K,e0⟩:=pr
    simp only at HW2 hZ hadv hle HSk hsk J2 HC
    clear HW J hwr hz hl
    go_wp2_with fail
    refine (HW2.out _).mono ?_
    rintro e w9 ⟨rfl,rfl⟩
    go_wp2_with fail
    refine (HC.out _).mono ?_
    rintro e w1 ⟨rfl,hB1⟩
    have HA:Hid (∃ ao n c w2 f acc,(Builtin.append_ #[134,134] 134 #[.slice al nl cl,.slice (some ⟨w1.heap.size,0,none⟩) 1 1]).run Tryz.prog (w1.alloc (.cells #[.int .i64 K,.string (s.extract k e0),.int .i64 k] 149))=.ok (.slice ao n c) w2 /\
      s.size<a1+f/\acc.length<=a1/\kr f (by8 s) a1 acc=R/\IsW w2 w'.heap.size s (.slice ao n c) acc/\Below w'.heap.size w' w2):=by
     obtain ⟨f,acc,hf,ha,he,hI,hB⟩:=J2.out
     have hb:=hB.size
     obtain ⟨ao,n,c,w2,hr,h2,h3⟩:=(hI.below hB1).add (by have:=hB1.size;omega) (by omega) K k e0
     exact ⟨ao,n,c,w2,f,acc++[(K,k,e0)],hr,hf,by rw [List.length_append];simp;omega,he,h2,(hB.trans (hB1.mono hb)).trans h3⟩
    clear J2 HC HW2 hB1
    obtain ⟨a2,n2,c2,w2,f2,acc2,hr,J3'⟩:=HA.out
    have J3:Hid (s.size<a1+f2/\acc2.length<=a1/\kr f2 (by8 s) a1 acc2=R/\IsW w2 w'.heap.size s (.slice a2 n2 c2) acc2/\Below w'.heap.size w' w2):=J3'
    clear HA J3'
    go_wp2_with (first | (at_builtin;refine Lib.wpList_append_run _ rfl _ _ _ _ rfl _ _ rfl rfl _ _ hr ?_) | (go_at_call 118;refine (HSk.out _).mono ?_;rintro e w9 ⟨rfl,rfl⟩))
    go_roundg (s.size - a1)
    case measure=>omega
    case rel=>exact ⟨a1,(n2,a2,c2),rfl,rfl,hsk.2,Nat.le_refl _,(⟨f2,acc2,J3.out⟩:∃ f acc,s.size<a1+f/\acc.length<=a1/\kr f (by8 s) a1 acc=R/\IsW _ w'.heap.size s (.slice a2 n2 c2) acc/\Below w'.heap.size w' _)⟩
  ·obtain rfl:k=s.size:=by omega
   have HA:Hid (∃ ao n c w2,(Builtin.append_ #[134,134] 134 #[.slice al nl cl,.slice (some ⟨wr.heap.size,0,none⟩) 1 1]).run Tryz.prog (wr.alloc (.cells #[.int .i64 5,.string ⟨#[]⟩,.int .i64 s.size] 149))=.ok (.slice ao n c) w2 /\
     R.2=-1/\IsW w2 w'.heap.size s (.slice ao n c) R.1/\Below w'.heap.size w' w2):=by
    obtain ⟨f,acc,hf,ha,he,hI,hB⟩:=J.out
    obtain ⟨f,rfl⟩:∃ g,f=g+1:=⟨f - 1,by omega⟩
    rw [qbx (by rw [HL.out];exact Nat.le_refl _),HL.out] at he
    have hb:=hB.size
    obtain ⟨ao,n,c,w2,hr,h2,h3⟩:=hI.add hb (by omega) 5 s.size s.size
    rw [qew] at hr
    exact ⟨ao,n,c,w2,hr,by rw [<-he],by rw [<-he];exact h2,hB.trans h3⟩
   clear J
   obtain ⟨a2,n2,c2,w2,hr,J3'⟩:=HA.out
   have J3:Hid (R.2=-1/\IsW w2 w'.heap.size s (.slice a2 n2 c2) R.1/\Below w'.heap.size w' w2):=J3'
   clear HA J3'
   go_wp2_with (at_builtin;refine Lib.wpList_append_run _ rfl _ _ _ _ rfl _ _ rfl rfl _ _ hr ?_)
   go_ret2
   exact ⟨_,by rw [J3.out.1];rfl,J3.out.2.1,J3.out.2.2⟩
theorem zh {w:World} {base k n:Nat} {E:TypeId} {v:Value} {cs:List Value} (h:w.ownsRow base E k v n cs) :
  ∃ ao cap,v=.slice ao n cap/\n<=cap/\cap<=maxLen/\((ao=none/\n=0/\cap=0)\/∃ g,ao=some ⟨g,0,none⟩):=by
 rcases h.2 with ⟨rfl,rfl⟩ | ⟨g,cap,cur,rfl,hg,hh,hn,hm,hs,ht⟩
 ·exact ⟨none,0,rfl,Nat.le_refl _,Nat.zero_le _,.inl ⟨rfl,rfl,rfl⟩⟩
 ·exact ⟨some ⟨g,0,none⟩,cap,rfl,hn,hm,.inr ⟨g,rfl⟩⟩
theorem qhx (s:ByteArray):∀ (ws:List (Nat × Nat × Nat)) (i:Nat) (x:Nat × Nat × Nat),ws[i]?=some x ->
  (jw s ws)[i * 3]?=some (.int .i64 x.1)/\(jw s ws)[i * 3+1]?=some (.string (s.extract x.2.1 x.2.2))/\(jw s ws)[i * 3+2]?=some (.int .i64 x.2.1)
 | [],i,x,h=>by cases h
 | y :: r,0,x,h=>by
  cases h
  exact ⟨rfl,rfl,rfl⟩
 | y :: r,i+1,x,h=>by
  have:=qhx s r i x h
  have e:jw s (y :: r)=qae s y++jw s r:=rfl
  have hl:(qae s y).length=3:=rfl
  rw [e,List.getElem?_append_right (by omega),List.getElem?_append_right (by omega),List.getElem?_append_right (by omega),hl]
  rw [show (i+1) * 3 - 3=i * 3 by omega,show (i+1) * 3+1 - 3=i * 3+1 by omega,show (i+1) * 3+2 - 3=i * 3+2 by omega]
  exact this
theorem IsW.at {w:World} {base:Nat} {s:ByteArray} {g n cap:Nat} {ws:List (Nat × Nat × Nat)} (h:IsW w base s (.slice (some ⟨g,0,none⟩) n cap) ws) {i:Nat} {x:Nat × Nat × Nat} (hx:ws[i]?=some x) :
  w.cell? ⟨g,i * 3,none⟩=some (.int .i64 x.1)/\w.cell? ⟨g,i * 3+1,none⟩=some (.string (s.extract x.2.1 x.2.2))/\w.cell? ⟨g,i * 3+2,none⟩=some (.int .i64 x.2.1):=by
 obtain ⟨c0,c1,c2⟩:=qhx s ws i x hx
 have hc:=World.ownsRow.cells h (g:=g) rfl
 refine ⟨?_,?_,?_⟩
 ·have:=hc _ _ c0;rwa [Addr.add_lit,Nat.zero_add] at this
 ·have:=hc _ _ c1;rwa [Addr.add_lit,Nat.zero_add] at this
 ·have:=hc _ _ c2;rwa [Addr.add_lit,Nat.zero_add] at this
end Go.Proofs.YtngclmglmhiljaaGreatDoor
