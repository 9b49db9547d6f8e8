/- Texts that the proofs of the First statements stand on, part Own06. -/
import Derived.Deep.SlicePairs
import Derived.Deep.Strs
import Derived.Deep.RegionHeld
import Derived.Deep.RegionLaw
import Derived.Test.YtngclmglmhiljaaGreatDoorOwn05
set_option maxHeartbeats 16000000
set_option maxRecDepth 100000
namespace Go.Proofs.YtngclmglmhiljaaGreatDoor
open Go.RowKit
structure Szs (S:Sp) (n:Nat):Prop where
 nm:S.nm.length=n
 nn:n=S.tk+1+S.nt
 tk:S.tk<=100
 nt:S.nt<=200
theorem WF.szs {S:Sp} (h:WF S):Szs S (S.tk+1+S.nt):=⟨h.nm,rfl,h.tk,h.nt⟩
theorem qa0 (h:SHd) (S:Sp) (w:World) (n:Nat) (hz:Szs S n) :
  Calls Tryz.prog 65 #[sv h S] w fun e w'=>e=.returned (.int .i64 (n:Int))/\Below w.heap.size w w':=by
 obtain ⟨hS,rfl,ht,hn⟩:=hz
 obtain ⟨tk,nt,st,ex,nm,lv,az,rs⟩:=S
 obtain ⟨na,nc,la,lc,aa,ac,ra,rc⟩:=h
 unfold sv sC
 simp only at *
 rw [hS]
 generalize lv.length=ln
 generalize az.length=an
 generalize rs.length=rn
 clear hS
 have h1:¬ (tk:Int)<0:=by omega
 have h2:¬ (nt:Int)<0:=by omega
 go_enter Tryz.func65,Tryz.ntmps65
 go_wp2_with fail
 go_ret
 exact ⟨by simp,qb _ _⟩
theorem qaa (h:SHd) (S:Sp) (w:World) (n x:Nat) (hz:Szs S n) (hx:x<n) :
  Calls Tryz.prog 67 #[sv h S,.int .i64 (x:Int)] w fun e w'=>e=.returned (.bool true)/\Below w.heap.size w w':=by
 have HC:Hid (∀ W:World,Calls Tryz.prog 65 #[sv h S] W fun e w'=>e=.returned (.int .i64 (n:Int))/\Below W.heap.size W w'):=fun W=>qa0 h S W n hz
 unfold sv sC at *
 have hx':(x:Int)<(n:Int):=by omega
 have hx0:(0:Int)<=(x:Int):=by omega
 go_enter Tryz.func67,Tryz.ntmps67
 go_wp2_with fail
 refine (HC.out _).mono ?_
 rintro e w1 ⟨rfl,hB⟩
 go_wp2_with fail
 go_ret
 exact ⟨rfl,qd (qb _ _) hB⟩
theorem qed (h:SHd) (S:Sp) (w:World) (n x:Nat) (hz:Szs S n) (hx:x<n) (ht:S.tk<x) :
  Calls Tryz.prog 66 #[sv h S,.int .i64 (x:Int)] w fun e w'=>e=.returned (.bool true)/\Below w.heap.size w w':=by
 have HC:Hid (∀ W:World,Calls Tryz.prog 67 #[sv h S,.int .i64 (x:Int)] W fun e w'=>e=.returned (.bool true)/\Below W.heap.size W w'):=fun W=>qaa h S W n x hz hx
 unfold sv sC at *
 have ht':(S.tk:Int)<(x:Int):=by omega
 go_enter Tryz.func66,Tryz.ntmps66
 go_wp2_with fail
 refine (HC.out _).mono ?_
 rintro e w1 ⟨rfl,hB⟩
 go_wp2_with fail
 go_ret
 exact ⟨rfl,qd (qb _ _) hB⟩
theorem qe3 (h:SHd) (S:Sp) (w:World) :
  Calls Tryz.prog 66 #[sv h S,.int .i64 (-1)] w fun e w'=>e=.returned (.bool false)/\Below w.heap.size w w':=by
 unfold sv sC at *
 have ht':¬ (S.tk:Int) < -1:=by omega
 go_enter Tryz.func66,Tryz.ntmps66
 go_wp2_with fail
 go_ret
 exact ⟨rfl,qb _ _⟩
theorem qfn (n:Nat):(madeCells (Value.bool false).cells (n * 1)).toList=booC (List.replicate n false):=by
 have e:(Value.bool false).cells=#[.bool false]:=rfl
 rw [Nat.mul_one,e,toList_madeCells_one]
 unfold booC
 rw [List.map_replicate]
theorem qat (w:World) (n:Nat) (hn:n<=1000) :
  Calls Tryz.prog 64 #[.int .i64 (n:Int)] w fun e w'=>∃ mb fb,e=.returned (.pointer (some ⟨mb,0,none⟩))/\Mrk w' w.heap.size mb fb none 0 (List.replicate n false) []/\Below w.heap.size w w':=by
 obtain ⟨i0,hi,hz0,hz1,hz2⟩:=info_parts i4
 obtain ⟨w1,hr,ho,hg⟩:=run_make_full (P:=Tryz.prog) w w.heap.size 41 4 i0 _ 1 u51 hi hz0 hz1 .i64 .i64 n (by rw [hz2];omega) (by unfold maxLen;omega) (Nat.le_refl _)
 rw [qfn] at ho
 have HF:Hid (Mrk (w1.alloc (.cells #[.slice (some ⟨w.heap.size,0,none⟩) n n,.slice none 0 0] 98)) w.heap.size w1.heap.size w.heap.size none 0 (List.replicate n false) []/\Below w.heap.size w (w1.alloc (.cells #[.slice (some ⟨w.heap.size,0,none⟩) n n,.slice none 0 0] 98))):=by
  have hb:Below w.heap.size w w1:=(Below.refl w.heap.size w).grown hg (Nat.le_refl _) (fun k hk=>by cases hk)
  refine ⟨⟨?_,?_,World.ownsRow_nil _ _ _ _,hb.size⟩,qd hb (qb _ _)⟩
  ·rw [List.length_replicate]
   exact heap_alloc_new _ _
  ·rw [List.length_replicate]
   exact ho.alloc _
 clear ho hg hi hz0 hz1 hz2
 go_enter Tryz.func64,Tryz.ntmps64
 go_wp2_with fail
 go_ret
 exact ⟨_,_,rfl,HF.out⟩
def popW (W:World) (mb:Nat) (va:Option Addr) (m vc:Nat):World:=W.setCell ⟨mb,1,none⟩ (.slice va m vc)
theorem qh3 {α:Type} (l:List α) (h:l≠[]):∃ a x,l=a++[x]:=⟨l.dropLast,l.getLast h,(List.dropLast_concat_getLast h).symm⟩
theorem qb5 (F:FuncId) (cap:Array Value) (hE:∀ (args:Array Value) (W:World),(callFunc F args).run Tryz.prog W=.ok (.enter F args) W) (base mb n:Nat) (hn:n<=1000) (I:World->Option Addr->Nat->List Bool->List Nat->Prop)
  (hI:∀ W va vc fd fr,I W va vc fd fr->MK n fd fr/\∃ fb,Mrk W base mb fb va vc fd fr)
  (hL:∀ W va vc fd fr x,I W va vc fd (fr++[x])->Calls Tryz.prog F (#[.int .i64 (x:Int)]++cap) (popW W mb va fr.length vc) fun e W'=>e=.returned (.tuple #[])/\∃ va' vc' fd' fr',I W' va' vc' fd' fr'/\lft n fd' fr'<lft n fd (fr++[x]))
  (W:World) (va:Option Addr) (vc:Nat) (fd:List Bool) (fr:List Nat) (h:I W va vc fd fr) :
  Calls Tryz.prog 69 #[.pointer (some ⟨mb,0,none⟩),.func (.func F) #[] cap] W fun e W'=>e=.returned (.tuple #[])/\∃ va' vc' fd',I W' va' vc' fd' []:=by
 have HL:Hid (∀ W va vc fd fr x,I W va vc fd (fr++[x])->Calls Tryz.prog F (#[.int .i64 (x:Int)]++cap) (popW W mb va fr.length vc) fun e W'=>e=.returned (.tuple #[])/\∃ va' vc' fd' fr',I W' va' vc' fd' fr'/\lft n fd' fr'<lft n fd (fr++[x])):=hL
 have HI:Hid (∀ W va vc fd fr,I W va vc fd fr->MK n fd fr/\∃ fb,Mrk W base mb fb va vc fd fr):=hI
 have HH:Hid (I W va vc fd fr):=h
 clear hL hI h
 go_enter Tryz.func69,Tryz.ntmps69
 go_wp2_with fail
 go_loopg [] (lft n fd fr) (fun kx wr=>Hid (∃ va' vc' fd' fr',I wr va' vc' fd' fr'/\lft n fd' fr'<=kx))
 case atStart=>exact (⟨va,vc,fd,fr,HH.out,Nat.le_refl _⟩:∃ va' vc' fd' fr',I W va' vc' fd' fr'/\lft n fd' fr'<=lft n fd fr)
 case round =>
  clear HH
  obtain ⟨va1,vc1,fd1,fr1,h1,hk⟩:=hrel.out
  obtain ⟨hmk,fb,hm⟩:=HI.out _ _ _ _ _ h1
  have b1:wr.cell? ⟨mb,1,none⟩=some (.slice va1 fr1.length vc1):=by rw [qe hm.box];rfl
  have f1:wr.frozen? ⟨mb,1,none⟩=false:=qi hm.box 1
  have hle:=hmk.le
  have hcap:=z8 hm.frs
  by_cases h0:fr1=[]
  ·subst h0
   have HF:Hid (∃ va' vc' fd',I wr va' vc' fd' []):=⟨_,_,_,h1⟩
   have b1:wr.cell? ⟨mb,1,none⟩=some (.slice va1 0 vc1):=b1
   clear hm hmk h1 hk hrel
   go_wp2_with fail
   go_end0
   exact ⟨rfl,HF.out⟩
  ·obtain ⟨fr2,x,rfl⟩:=qh3 fr1 h0
   have el:(fr2++[x]).length=fr2.length+1:=by simp
   rw [el] at b1 hle hcap
   have hfs:=hm.frs
   rw [el] at hfs
   obtain ⟨g,rfl⟩:∃ g,va1=some ⟨g,0,none⟩:=by
    obtain ⟨ao,c,e,-,-,h6⟩:=zh hfs
    cases e
    rcases h6 with ⟨-,h6,-⟩ | h6
    ·omega
    ·exact h6
   have c1:wr.cell? ⟨g,fr2.length,none⟩=some (.int .i64 (x:Int)):=by
    rw [hfs.cellAt fr2.length (by omega),jf,List.getElem?_append_right (by rw [js];exact Nat.le_refl _),js,Nat.sub_self]
    rfl
   have HC:Hid (Calls Tryz.prog F (#[.int .i64 (x:Int)]++cap) (popW wr mb (some ⟨g,0,none⟩) fr2.length vc1) fun e W'=>e=.returned (.tuple #[])/\∃ va' vc' fd' fr',I W' va' vc' fd' fr'/\lft n fd' fr'<lft n fd1 (fr2++[x])):=HL.out _ _ _ _ _ _ h1
   have HK:Hid (lft n fd1 (fr2++[x])<=gk):=hk
   unfold popW at HC
   generalize fr2.length=m at *
   clear hm hmk h1 hk hrel hfs el h0
   have m1:(0:Int)<(m:Int)+1:=by omega
   go_wp2_with fail
   refine HC.out.mono ?_
   rintro e W' ⟨rfl,va',vc',fd',fr',hi,hlt⟩
   have HF:Hid (∃ va' vc' fd' fr',I W' va' vc' fd' fr'/\lft n fd' fr'<=gk - 1):=⟨va',vc',fd',fr',hi,by have:=HK.out;omega⟩
   have hgk:1<=gk:=by have:=HK.out;omega
   clear hi hlt HC
   go_wp2_with fail
   go_roundg (gk - 1)
   case measure=>omega
   case rel=>exact HF
def grC (vs:List (Option Addr × Nat)) (wt:List (List Nat)):List Value:=(vs.zip wt).map fun q=>.slice q.1.1 q.2.length q.1.2
structure Grd (W:World) (base wb:Nat) (vs:List (Option Addr × Nat)) (wt:List (List Nat)):Prop where
 len:vs.length=wt.length
 bod:W.ownsRow base 26 1 (.slice (some ⟨wb,0,none⟩) wt.length wt.length) wt.length (grC vs wt)
 row:∀ (x:Nat) (p:Option Addr × Nat) (l:List Nat),vs[x]?=some p->wt[x]?=some l->W.ownsRow base 3 1 (.slice p.1 l.length p.2) l.length (natC l)
 dis:∀ (x y:Nat) (p q:Option Addr × Nat) (k:Nat),x≠y->vs[x]?=some p->vs[y]?=some q->blk p.1=some k->blk q.1≠some k
def GR (vs:List (Option Addr × Nat)) (k:Nat):Prop:=∃ (x:Nat) (p:Option Addr × Nat),vs[x]?=some p/\blk p.1=some k
theorem qhj {W:World} {base E k n c:Nat} {ao:Option Addr} {cs:List Value} (h:W.ownsRow base E k (.slice ao n c) n cs) {b:Nat} (hb:blk ao=some b):(Value.slice ao n c).ownBlock=some b:=by
 rcases h.2 with ⟨hv,-⟩ | ⟨g,cap,cur,hv,-⟩
 ·cases hv;cases hb
 ·cases hv;exact hb
theorem qw {W:World} {base E k n c:Nat} {ao:Option Addr} {cs:List Value} (h:W.ownsRow base E k (.slice ao n c) n cs) {b:Nat} (hb:blk ao=some b):base<=b/\b<W.heap.size/\Loc W b E :=
 ⟨(World.ownsRow.lt h b (qhj h hb)).1,(World.ownsRow.lt h b (qhj h hb)).2,qx h (qhj h hb)⟩
theorem Grd.lt {W:World} {base wb:Nat} {vs:List (Option Addr × Nat)} {wt:List (List Nat)} (h:Grd W base wb vs wt) {k:Nat} (hk:GR vs k):base<=k/\k<W.heap.size/\Loc W k 3:=by
 obtain ⟨x,p,hp,hb⟩:=hk
 have hx:x<wt.length:=by rw [<-h.len];exact (List.getElem?_eq_some_iff.1 hp).1
 exact qw (h.row x p wt[x] hp (List.getElem?_eq_getElem hx)) hb
theorem Grd.loc {W:World} {base wb:Nat} {vs:List (Option Addr × Nat)} {wt:List (List Nat)} (h:Grd W base wb vs wt):base<=wb/\wb<W.heap.size/\Loc W wb 26:=qw h.bod rfl
theorem Grd.keep {W W':World} {base wb:Nat} {vs:List (Option Addr × Nat)} {wt:List (List Nat)} (h:Grd W base wb vs wt) (h1:W'.heap[wb]?=W.heap[wb]?) (h2:∀ k,GR vs k->W'.heap[k]?=W.heap[k]?):Grd W' base wb vs wt:=by
 refine ⟨h.len,?_,fun x p l hp hl=>?_,h.dis⟩
 ·exact qh h.bod (fun i hi=>by cases hi;exact h1)
 ·exact qh (h.row x p l hp hl) (fun i hi=>h2 i ⟨x,p,hp,zi hi⟩)
theorem Grd.kept {W W':World} {F:Nat->Prop} {base wb:Nat} {vs:List (Option Addr × Nat)} {wt:List (List Nat)} (h:Grd W base wb vs wt) (k:Kept F W W') (h1:¬ F wb) (h2:∀ j,GR vs j->¬ F j):Grd W' base wb vs wt :=
 h.keep (k.block wb h.loc.2.1 h1) (fun j hj=>k.block j (h.lt hj).2.1 (h2 j hj))
theorem Grd.below {W W':World} {base wb:Nat} {vs:List (Option Addr × Nat)} {wt:List (List Nat)} (h:Grd W base wb vs wt) (k:Below W.heap.size W W'):Grd W' base wb vs wt :=
 h.keep (k.block wb h.loc.2.1) (fun j hj=>k.block j (h.lt hj).2.1)
theorem Grd.at {W:World} {base wb:Nat} {vs:List (Option Addr × Nat)} {wt:List (List Nat)} (h:Grd W base wb vs wt) {x:Nat} {l:List Nat} (hl:wt[x]?=some l):∃ p,vs[x]?=some p/\W.cell? ⟨wb,x,none⟩=some (.slice p.1 l.length p.2)/\W.frozen? ⟨wb,x,none⟩=false:=by
 have hx:x<wt.length:=(List.getElem?_eq_some_iff.1 hl).1
 have hp:vs[x]?=some (vs[x]'(by rw [h.len];exact hx)):=List.getElem?_eq_getElem _
 refine ⟨_,hp,?_,h.bod.frozenAt x⟩
 rw [h.bod.cellAt x (by omega)]
 unfold grC
 have hz:(vs.zip wt)[x]?=some (vs[x]'(by rw [h.len];exact hx),l):=by rw [List.getElem?_zip_eq_some];exact ⟨hp,hl⟩
 rw [List.getElem?_map,hz]
 rfl
theorem qde {α β:Type}:∀ {l:List α} {m:List β} {i:Nat} {x:α} {y:β},(l.set i x).zip (m.set i y)=(l.zip m).set i (x,y)
 | [],m,i,x,y=>by simp
 | a :: l,[],i,x,y=>by simp
 | a :: l,b :: m,0,x,y=>rfl
 | a :: l,b :: m,i+1,x,y=>by
  simp only [List.set_cons_succ,List.zip_cons_cons]
  rw [qde]
theorem Kept.weaken {F G:Nat->Prop} {W W':World} (h:Kept F W W') (hs:∀ k,F k->G k):Kept G W W':=⟨h.os,h.tape,h.output,h.size,fun k hk hn=>h.block k hk (fun e=>hn (hs k e))⟩
theorem Grd.add {W:World} {base wb:Nat} {vs:List (Option Addr × Nat)} {wt:List (List Nat)} (h:Grd W base wb vs wt) (hB:base<=W.heap.size) {x i:Nat} {l:List Nat} {p:Option Addr × Nat} (hl:wt[x]?=some l) (hp:vs[x]?=some p) (hn:l.length<100000) :
  ∃ g c W',(Builtin.append_ #[26,26] 26 #[.slice p.1 l.length p.2,.slice (some ⟨W.heap.size,0,none⟩) 1 1]).run Tryz.prog (W.alloc (.cells #[.int .i64 (i:Int)] 3))=.ok (.slice (some ⟨g,0,none⟩) (l.length+1) c) W' /\
   W'.cell? ⟨wb,x,none⟩=some (.slice p.1 l.length p.2)/\W'.frozen? ⟨wb,x,none⟩=false/\Kept (fun k=>blk p.1=some k) W W' /\
   Grd (W'.setCell ⟨wb,x,none⟩ (.slice (some ⟨g,0,none⟩) (l.length+1) c)) base wb (vs.set x (some ⟨g,0,none⟩,c)) (wt.set x (l++[i]))/\Kept (fun k=>k=wb\/blk p.1=some k) W (W'.setCell ⟨wb,x,none⟩ (.slice (some ⟨g,0,none⟩) (l.length+1) c))/\(blk p.1=some g\/W.heap.size<=g):=by
 obtain ⟨g,c,W',hr,ho,hk,hg⟩:=jc (us:=[.int .i64 (i:Int)]) u29 i3 rfl (by decide) (by decide) rfl (fun u hu=>by rw [List.mem_singleton] at hu;subst hu;rfl) (h.row x p l hp hl) hB hn
 have hx:x<wt.length:=(List.getElem?_eq_some_iff.1 hl).1
 have hxv:x<vs.length:=by rw [h.len];exact hx
 have k0:Kept (fun k=>blk p.1=some k) W W':=((Kept.refl _ W).alloc _).trans hk (fun k _ e=>zi e)
 have hg':blk p.1=some g\/W.heap.size<=g:=hg.imp zi id
 have hwb:¬ blk p.1=some wb:=fun e=>qr (qw (h.row x p l hp hl) e).2.2 h.loc.2.2 (by decide) rfl
 have gb:W'.ownsRow base 26 1 (.slice (some ⟨wb,0,none⟩) wt.length wt.length) wt.length (grC vs wt):=qh h.bod (fun j hj=>by cases hj;exact k0.block wb h.loc.2.1 hwb)
 have hgl:g≠wb:=fun e=>qr (qx ho rfl) (qx gb rfl) (by decide) e
 obtain ⟨p',hp',c1,-⟩:=h.at hl
 rw [hp] at hp'
 cases hp'
 have c2:W'.cell? ⟨wb,x,none⟩=some (.slice p.1 l.length p.2):=by
  have:W'.heap[wb]?=W.heap[wb]?:=k0.block wb h.loc.2.1 hwb
  unfold World.cell? at c1 ⊢
  rw [this]
  exact c1
 refine ⟨g,c,W',hr,c2,gb.frozenAt x,k0,⟨?_,?_,?_,?_⟩,?_,hg'⟩
 ·rw [List.length_set,List.length_set];exact h.len
 ·have s1:=(gb.stored x (.slice (some ⟨g,0,none⟩) (l.length+1) c)).1
  rw [List.length_set]
  have e:grC (vs.set x (some ⟨g,0,none⟩,c)) (wt.set x (l++[i]))=(grC vs wt).set x (.slice (some ⟨g,0,none⟩) (l.length+1) c):=by
   unfold grC
   rw [qde,List.map_set]
   simp
  rw [e]
  exact s1
 ·intro y q m hq hm
  rw [List.getElem?_set] at hq hm
  by_cases hy:x=y
  ·subst hy
   rw [if_pos rfl,if_pos hxv] at hq
   rw [if_pos rfl,if_pos hx] at hm
   cases hq
   cases hm
   rw [jf,List.length_append]
   exact qh ho (fun j hj=>by cases hj;exact Below.heap_setCell _ _ _ _ hgl)
  ·rw [if_neg hy] at hq hm
   have hro:=h.row y q m hq hm
   refine qh hro (fun j hj=>?_)
   have hj':=zi hj
   rw [Below.heap_setCell _ _ _ _ (qr (qx hro hj) h.loc.2.2 (by decide)),k0.block j (qw hro hj').2.1 (fun e=>h.dis x y p q j hy hp hq e hj')]
 ·intro y z q r k hyz hq hr hb
  rw [List.getElem?_set] at hq hr
  have old:∀ (u:Nat) (s:Option Addr × Nat),vs[u]?=some s->x≠u->blk s.1=some g->False:=by
   intro u s hs hxu hb2
   rcases hg' with h1 | h1
   ·exact h.dis x u p s g hxu hp hs h1 hb2
   ·have:=(h.lt ⟨u,s,hs,hb2⟩).2.1
    omega
  by_cases h1:x=y
  ·subst h1
   rw [if_pos rfl,if_pos hxv] at hq
   rw [if_neg hyz] at hr
   cases hq
   cases hb
   exact fun e=>old z r hr hyz e
  ·rw [if_neg h1] at hq
   by_cases h2:x=z
   ·subst h2
    rw [if_pos rfl,if_pos hxv] at hr
    cases hr
    intro e
    cases e
    exact old y q hq h1 hb
   ·rw [if_neg h2] at hr
    exact h.dis y z q r k hyz hq hr hb
 ·refine Kept.setCell (k0.weaken (fun k e=>.inr e)) _ _ (fun _=>.inl rfl)
theorem qj3 {W:World} {B E g n c:Nat} {cs:List Value} {u:Value} (h:W.ownsRow B E 1 (.slice (some ⟨g,0,none⟩) (n+1) c) (n+1) (cs++[u])):W.ownsRow B E 1 (.slice (some ⟨g,0,none⟩) n c) n cs:=by
 have hl:cs.length=n:=by have:=h.1;rw [List.length_append] at this;simpa using this
 rcases h.2 with ⟨hv,-⟩ | ⟨g',c',cur,hv,hb,hh,h1,h2,h3,h4⟩
 ·cases hv
 ·cases hv
  refine ⟨by omega,.inr ⟨g,c,cur,rfl,hb,hh,by omega,h2,h3,?_⟩⟩
  have h5:=congrArg (List.take n) h4
  rw [List.take_take,List.take_append_of_le_length (Nat.le_of_eq hl.symm),List.take_of_length_le (Nat.le_of_eq hl)] at h5
  rw [Nat.mul_one] at h5 ⊢
  rw [Nat.min_eq_left (by omega)] at h5
  exact h5
theorem Mrk.loc {W:World} {base mb fb vc:Nat} {va:Option Addr} {fd:List Bool} {fr:List Nat} (h:Mrk W base mb fb va vc fd fr) {k:Nat} (hk:MF mb fb va k):base<=k/\k<W.heap.size/\(Loc W k 98\/Loc W k 4\/Loc W k 3):=by
 rcases hk with rfl | rfl | hk
 ·exact ⟨h.new,(Array.getElem?_eq_some_iff.1 h.box).1,.inl ⟨_,h.box⟩⟩
 ·have:=qw h.fnd (b:=k) rfl
  exact ⟨this.1,this.2.1,.inr (.inl this.2.2)⟩
 ·have:=qw h.frs hk
  exact ⟨this.1,this.2.1,.inr (.inr this.2.2)⟩
theorem Mrk.notMF {W:World} {base mb fb vc:Nat} {va:Option Addr} {fd:List Bool} {fr:List Nat} (h:Mrk W base mb fb va vc fd fr) {k T:Nat} (hl:Loc W k T) (h1:T≠98) (h2:T≠4) (h3:T≠3):¬ MF mb fb va k:=by
 intro hk
 rcases (h.loc hk).2.2 with e | e | e
 ·exact qr hl e h1 rfl
 ·exact qr hl e h2 rfl
 ·exact qr hl e h3 rfl
theorem Mrk.pop {W:World} {base mb fb vc x:Nat} {va:Option Addr} {fd:List Bool} {fr:List Nat} (h:Mrk W base mb fb va vc fd (fr++[x])):Mrk (popW W mb va fr.length vc) base mb fb va vc fd fr/\MMv W mb fb va (popW W mb va fr.length vc) va:=by
 have hf:=h.frs
 rw [List.length_append,jf] at hf
 obtain ⟨g,rfl⟩:∃ g,va=some ⟨g,0,none⟩:=by
  obtain ⟨ao,c,e,-,-,h6⟩:=zh hf
  cases e
  rcases h6 with ⟨-,h6,-⟩ | h6
  ·exact absurd h6 (by simp)
  ·exact h6
 have hf2:=qj3 hf
 have hne:mb≠fb:=qr ⟨_,h.box⟩ (qx h.fnd rfl) (by decide)
 have hng:mb≠g:=qr ⟨_,h.box⟩ (qx hf rfl) (by decide)
 refine ⟨⟨?_,?_,?_,h.new⟩,(Kept.refl _ _).setCell _ _ (fun _=>.inl rfl),fun _ e=>.inl e⟩
 ·unfold popW
  rw [setCell_eq_setRow W mb 1 _ 98 (0,0) _ h.box]
  exact setRow_heap _ _ _ _ 98 _ h.box
 ·exact qh h.fnd (fun i hi=>by cases hi;exact Below.heap_setCell _ _ _ _ (Ne.symm hne))
 ·exact qh hf2 (fun i hi=>by cases hi;exact Below.heap_setCell _ _ _ _ (Ne.symm hng))
theorem Mrk.keep {W W':World} {base mb fb vc:Nat} {va:Option Addr} {fd:List Bool} {fr:List Nat} (h:Mrk W base mb fb va vc fd fr) (hk:∀ k,MF mb fb va k->W'.heap[k]?=W.heap[k]?):Mrk W' base mb fb va vc fd fr :=
 ⟨by rw [hk mb (.inl rfl)];exact h.box,qh h.fnd (fun i hi=>by cases hi;exact hk fb (.inr (.inl rfl))),qh h.frs (fun i hi=>hk i (.inr (.inr (zi hi)))),h.new⟩
structure YP where
 b1:Nat
 b3:Nat
 b5:Nat
 mb:Nat
 fb:Nat
 wb:Nat
structure YB (w W:World) (h:SHd) (S:Sp) (p:YP) (va:Option Addr) (vc:Nat) (vs:List (Option Addr × Nat)) (fd:List Bool) (fr:List Nat) (wt:List (List Nat)):Prop where
 bel:Below w.heap.size w W
 bs:W.heap[p.b1]?=some (.cells (sC h S) 31 (0,0))
 bm:W.heap[p.b3]?=some (.cells #[.pointer (some ⟨p.mb,0,none⟩)] 94 (0,0))
 bw:W.heap[p.b5]?=some (.cells #[.slice (some ⟨p.wb,0,none⟩) wt.length wt.length] 38 (0,0))
 mrk:Mrk W w.heap.size p.mb p.fb va vc fd fr
 grd:Grd W w.heap.size p.wb vs wt
 dis:∀ k,GR vs k->blk va≠some k
theorem YB.mark {w W W':World} {h:SHd} {S:Sp} {p:YP} {va va':Option Addr} {vc vc':Nat} {vs:List (Option Addr × Nat)} {fd fd':List Bool} {fr fr':List Nat} {wt:List (List Nat)} (y:YB w W h S p va vc vs fd fr wt) (hm:Mrk W' w.heap.size p.mb p.fb va' vc' fd' fr') (hv:MMv W p.mb p.fb va W' va'):YB w W' h S p va' vc' vs fd' fr' wt:=by
 have bx:∀ {b T:Nat} {c:Array Value},W.heap[b]?=some (.cells c T (0,0))->T≠98->T≠4->T≠3->W'.heap[b]?=some (.cells c T (0,0)):=fun hb h1 h2 h3=>by
  rw [hv.1.block _ (Array.getElem?_eq_some_iff.1 hb).1 (y.mrk.notMF ⟨_,hb⟩ h1 h2 h3)];exact hb
 refine ⟨y.bel.trans (hv.1.below y.bel.size (fun k hk e=>by have:=(y.mrk.loc e).1;omega)),bx y.bs (by decide) (by decide) (by decide),bx y.bm (by decide) (by decide) (by decide),bx y.bw (by decide) (by decide) (by decide),hm,?_,?_⟩
 ·refine y.grd.kept hv.1 (y.mrk.notMF y.grd.loc.2.2 (by decide) (by decide) (by decide)) (fun j hj e=>?_)
  have hl:=(y.grd.lt hj).2.2
  rcases e with rfl | rfl | e
  ·exact qr hl ⟨_,y.mrk.box⟩ (by decide) rfl
  ·exact qr hl (qx y.mrk.fnd rfl) (by decide) rfl
  ·exact y.dis j hj e
 ·intro k hk e
  rcases hv.2 k e with h1 | h1
  ·exact y.dis k hk h1
  ·have:=(y.grd.lt hk).2.1
   omega
theorem YB.below {w W W':World} {h:SHd} {S:Sp} {p:YP} {va:Option Addr} {vc:Nat} {vs:List (Option Addr × Nat)} {fd:List Bool} {fr:List Nat} {wt:List (List Nat)} (y:YB w W h S p va vc vs fd fr wt) (hb:Below W.heap.size W W'):YB w W' h S p va vc vs fd fr wt :=
 ⟨qd y.bel hb,qf hb y.bs,qf hb y.bm,qf hb y.bw,y.mrk.keep (fun k hk=>hb.block k (y.mrk.loc hk).2.1),y.grd.below hb,y.dis⟩
theorem YB.pop {w W:World} {h:SHd} {S:Sp} {p:YP} {va:Option Addr} {vc x:Nat} {vs:List (Option Addr × Nat)} {fd:List Bool} {fr:List Nat} {wt:List (List Nat)} (y:YB w W h S p va vc vs fd (fr++[x]) wt):YB w (popW W p.mb va fr.length vc) h S p va vc vs fd fr wt :=
 y.mark y.mrk.pop.1 y.mrk.pop.2
theorem YB.push {w W:World} {h:SHd} {S:Sp} {p:YP} {va:Option Addr} {vc x i:Nat} {vs:List (Option Addr × Nat)} {fd:List Bool} {fr:List Nat} {wt:List (List Nat)} {l:List Nat} {q:Option Addr × Nat} (y:YB w W h S p va vc vs fd fr wt) (hl:wt[x]?=some l) (hq:vs[x]?=some q) (hn:l.length<100000) :
  ∃ g c W',(Builtin.append_ #[26,26] 26 #[.slice q.1 l.length q.2,.slice (some ⟨W.heap.size,0,none⟩) 1 1]).run Tryz.prog (W.alloc (.cells #[.int .i64 (i:Int)] 3))=.ok (.slice (some ⟨g,0,none⟩) (l.length+1) c) W' /\
   W'.cell? ⟨p.wb,x,none⟩=some (.slice q.1 l.length q.2)/\W'.frozen? ⟨p.wb,x,none⟩=false/\W'.cell? ⟨p.b5,0,none⟩=some (.slice (some ⟨p.wb,0,none⟩) wt.length wt.length) /\
   YB w (W'.setCell ⟨p.wb,x,none⟩ (.slice (some ⟨g,0,none⟩) (l.length+1) c)) h S p va vc (vs.set x (some ⟨g,0,none⟩,c)) fd fr (wt.set x (l++[i]))/\Kept (fun k=>k=p.wb\/blk q.1=some k) W (W'.setCell ⟨p.wb,x,none⟩ (.slice (some ⟨g,0,none⟩) (l.length+1) c))/\(blk q.1=some g\/W.heap.size<=g):=by
 obtain ⟨g,c,W',hr,c1,f1,k0,hG,hK,hg⟩:=y.grd.add (i:=i) y.bel.size hl hq hn
 have hq3:∀ k,blk q.1=some k->Loc W k 3/\w.heap.size<=k:=fun k e=>⟨(y.grd.lt ⟨x,q,hq,e⟩).2.2,(y.grd.lt ⟨x,q,hq,e⟩).1⟩
 have nf:∀ {k T:Nat},Loc W k T->T≠26->T≠3->¬ (k=p.wb\/blk q.1=some k):=fun hl h1 h2 e=>by
  rcases e with rfl | e
  ·exact qr hl y.grd.loc.2.2 h1 rfl
  ·exact qr hl (hq3 _ e).1 h2 rfl
 have bx:∀ {b T:Nat} {c':Array Value},W.heap[b]?=some (.cells c' T (0,0))->T≠26->T≠3->(W'.setCell ⟨p.wb,x,none⟩ (.slice (some ⟨g,0,none⟩) (l.length+1) c)).heap[b]?=some (.cells c' T (0,0)):=fun hb h1 h2=>by
  rw [hK.block _ (Array.getElem?_eq_some_iff.1 hb).1 (nf ⟨_,hb⟩ h1 h2)];exact hb
 have b5:W'.heap[p.b5]?=some (.cells #[.slice (some ⟨p.wb,0,none⟩) wt.length wt.length] 38 (0,0)):=by
  rw [k0.block _ (Array.getElem?_eq_some_iff.1 y.bw).1 (fun e=>nf ⟨_,y.bw⟩ (by decide) (by decide) (.inr e))];exact y.bw
 refine ⟨g,c,W',hr,c1,f1,by rw [qe b5];rfl,⟨?_,bx y.bs (by decide) (by decide),bx y.bm (by decide) (by decide),?_,?_,hG,?_⟩,hK,hg⟩
 ·refine y.bel.trans (hK.below y.bel.size (fun k hk e=>?_))
  rcases e with rfl | e
  ·have:=y.grd.loc.1;omega
  ·have:=(hq3 k e).2;omega
 ·rw [List.length_set]
  exact bx y.bw (by decide) (by decide)
 ·refine y.mrk.keep (fun k hk=>hK.block k (y.mrk.loc hk).2.1 (fun e=>?_))
  rcases e with rfl | e
  ·exact y.mrk.notMF y.grd.loc.2.2 (by decide) (by decide) (by decide) hk
  ·rcases hk with rfl | rfl | hk
   ·exact qr ⟨_,y.mrk.box⟩ (hq3 _ e).1 (by decide) rfl
   ·exact qr (qx y.mrk.fnd rfl) (hq3 _ e).1 (by decide) rfl
   ·exact y.dis k ⟨x,q,hq,e⟩ hk
 ·rintro k ⟨z,s,hs,hb⟩ e
  rw [List.getElem?_set] at hs
  have hxv:x<vs.length:=(List.getElem?_eq_some_iff.1 hq).1
  by_cases hz:x=z
  ·subst hz
   rw [if_pos rfl,if_pos hxv] at hs
   cases hs
   cases hb
   rcases hg with h1 | h1
   ·exact y.dis g ⟨x,q,hq,h1⟩ e
   ·have:=(qw y.mrk.frs e).2.1
    simp only at this
    omega
  ·rw [if_neg hz] at hs
   exact y.dis k ⟨z,s,hs,hb⟩ e
structure YM (w W:World) (h:SHd) (S:Sp) (p:YP) (b4 gm:Nat) (va:Option Addr) (vc:Nat) (vs:List (Option Addr × Nat)) (fd:List Bool) (fr:List Nat) (ms:List Int) (wt:List (List Nat)):Prop where
 yb:YB w W h S p va vc vs fd fr wt
 bi:W.heap[b4]?=some (.cells #[.slice (some ⟨gm,0,none⟩) ms.length ms.length] 26 (0,0))
 mis:W.ownsRow w.heap.size 3 1 (.slice (some ⟨gm,0,none⟩) ms.length ms.length) ms.length (intC ms)
 d1:blk va≠some gm
 d2:∀ k,GR vs k->k≠gm
 d3:b4≠p.wb
theorem YM.below {w W W':World} {h:SHd} {S:Sp} {p:YP} {b4 gm:Nat} {va:Option Addr} {vc:Nat} {vs:List (Option Addr × Nat)} {fd:List Bool} {fr:List Nat} {ms:List Int} {wt:List (List Nat)} (y:YM w W h S p b4 gm va vc vs fd fr ms wt) (hb:Below W.heap.size W W'):YM w W' h S p b4 gm va vc vs fd fr ms wt :=
 ⟨y.yb.below hb,qf hb y.bi,qh y.mis (fun i hi=>hb.block i (World.ownsRow.lt y.mis i hi).2),y.d1,y.d2,y.d3⟩
theorem YM.mark {w W W':World} {h:SHd} {S:Sp} {p:YP} {b4 gm:Nat} {va va':Option Addr} {vc vc':Nat} {vs:List (Option Addr × Nat)} {fd fd':List Bool} {fr fr':List Nat} {ms:List Int} {wt:List (List Nat)} (y:YM w W h S p b4 gm va vc vs fd fr ms wt) (hm:Mrk W' w.heap.size p.mb p.fb va' vc' fd' fr') (hv:MMv W p.mb p.fb va W' va'):YM w W' h S p b4 gm va' vc' vs fd' fr' ms wt:=by
 have hgm:=qw y.mis (b:=gm) rfl
 refine ⟨y.yb.mark hm hv,?_,?_,?_,y.d2,y.d3⟩
 ·rw [hv.1.block _ (Array.getElem?_eq_some_iff.1 y.bi).1 (y.yb.mrk.notMF ⟨_,y.bi⟩ (by decide) (by decide) (by decide))]
  exact y.bi
 ·refine qh y.mis (fun i hi=>?_)
  cases hi
  refine hv.1.block gm hgm.2.1 (fun e=>?_)
  rcases e with e | e | e
  ·exact qr hgm.2.2 ⟨_,y.yb.mrk.box⟩ (by decide) e
  ·exact qr hgm.2.2 (qx y.yb.mrk.fnd rfl) (by decide) e
  ·exact y.d1 e
 ·intro e
  rcases hv.2 gm e with h1 | h1
  ·exact y.d1 h1
  ·omega
theorem YM.pop {w W:World} {h:SHd} {S:Sp} {p:YP} {b4 gm:Nat} {va:Option Addr} {vc x:Nat} {vs:List (Option Addr × Nat)} {fd:List Bool} {fr:List Nat} {ms:List Int} {wt:List (List Nat)} (y:YM w W h S p b4 gm va vc vs fd (fr++[x]) ms wt):YM w (popW W p.mb va fr.length vc) h S p b4 gm va vc vs fd fr ms wt :=
 y.mark y.yb.mrk.pop.1 y.yb.mrk.pop.2
theorem YM.put {w W:World} {h:SHd} {S:Sp} {p:YP} {b4 gm:Nat} {va:Option Addr} {vc i:Nat} {vs:List (Option Addr × Nat)} {fd:List Bool} {fr:List Nat} {ms:List Int} {wt:List (List Nat)} {z:Int} (y:YM w W h S p b4 gm va vc vs fd fr ms wt):YM w (W.setCell ⟨gm,i,none⟩ (.int .i64 z)) h S p b4 gm va vc vs fd fr (ms.set i z) wt:=by
 have hgm:=qw y.mis (b:=gm) rfl
 have bx:∀ {b T:Nat},Loc W b T->T≠3->(W.setCell ⟨gm,i,none⟩ (.int .i64 z)).heap[b]?=W.heap[b]?:=fun hb h1=>Below.heap_setCell _ _ _ _ (qr hb hgm.2.2 h1)
 refine ⟨⟨y.yb.bel.setCell (p:=⟨gm,i,none⟩) hgm.1 _,?_,?_,?_,?_,?_,y.yb.dis⟩,?_,?_,y.d1,y.d2,y.d3⟩
 ·rw [bx ⟨_,y.yb.bs⟩ (by decide)];exact y.yb.bs
 ·rw [bx ⟨_,y.yb.bm⟩ (by decide)];exact y.yb.bm
 ·rw [bx ⟨_,y.yb.bw⟩ (by decide)];exact y.yb.bw
 ·refine y.yb.mrk.keep (fun k hk=>?_)
  rcases hk with rfl | rfl | hk
  ·exact bx ⟨_,y.yb.mrk.box⟩ (by decide)
  ·exact bx (qx y.yb.mrk.fnd rfl) (by decide)
  ·exact Below.heap_setCell _ _ _ _ (fun e=>y.d1 (by simp only at e;rw [<-e];exact hk))
 ·exact y.yb.grd.keep (bx y.yb.grd.loc.2.2 (by decide)) (fun k hk=>Below.heap_setCell _ _ _ _ (y.d2 k hk))
 ·rw [bx ⟨_,y.bi⟩ (by decide),List.length_set];exact y.bi
 ·have:=(y.mis.stored i (.int .i64 z)).1
  rw [List.length_set]
  unfold intC at this ⊢
  rw [List.map_set]
  exact this
theorem YM.push {w W W':World} {h:SHd} {S:Sp} {p:YP} {b4 gm g:Nat} {va:Option Addr} {vc x c:Nat} {vs:List (Option Addr × Nat)} {fd:List Bool} {fr:List Nat} {ms:List Int} {wt wt':List (List Nat)} {q:Option Addr × Nat} (y:YM w W h S p b4 gm va vc vs fd fr ms wt) (hq:vs[x]?=some q) (yb:YB w W' h S p va vc (vs.set x (some ⟨g,0,none⟩,c)) fd fr wt') (hK:Kept (fun k=>k=p.wb\/blk q.1=some k) W W') (hg:blk q.1=some g\/W.heap.size<=g):YM w W' h S p b4 gm va vc (vs.set x (some ⟨g,0,none⟩,c)) fd fr ms wt':=by
 have hgm:=qw y.mis (b:=gm) rfl
 have hq3:∀ k,blk q.1=some k->Loc W k 3:=fun k e=>(y.yb.grd.lt ⟨x,q,hq,e⟩).2.2
 refine ⟨yb,?_,?_,y.d1,?_,y.d3⟩
 ·rw [hK.block _ (Array.getElem?_eq_some_iff.1 y.bi).1 (fun e=>?_)]
  ·exact y.bi
  ·rcases e with e | e
   ·exact y.d3 e
   ·exact qr ⟨_,y.bi⟩ (hq3 _ e) (by decide) rfl
 ·refine qh y.mis (fun i hi=>?_)
  cases hi
  refine hK.block gm hgm.2.1 (fun e=>?_)
  rcases e with e | e
  ·exact qr hgm.2.2 y.yb.grd.loc.2.2 (by decide) e
  ·exact y.d2 gm ⟨x,q,hq,e⟩ rfl
 ·rintro k ⟨z,s,hs,hb⟩ e
  rw [List.getElem?_set] at hs
  have hxv:x<vs.length:=(List.getElem?_eq_some_iff.1 hq).1
  by_cases hz:x=z
  ·subst hz
   rw [if_pos rfl,if_pos hxv] at hs
   cases hs
   cases hb
   rcases hg with h1 | h1
   ·exact y.d2 g ⟨x,q,hq,h1⟩ e
   ·simp only at e
    omega
  ·rw [if_neg hz] at hs
   exact y.d2 k ⟨z,s,hs,hb⟩ e
theorem zc {ops:Array Oper} {o:Oper} {a:Act} {w w':World} {K:Act->World->Prop} {Q:Exit->Act->World->Prop} {E:Prop} {u v r:Value} {t:TypeId}
  (hg:o.guard=none) (s x:Operand) (hop:o.op=Op.call { callee:=Callee.builtin Builtin.append,args:=#[s,x],argTypes:=#[t,t] }) (ht:o.type=t)
  (hs:a.eval s=u) (hx:a.eval x=v) (hrun:(Builtin.append_ #[t,t] t #[u,v]).run Tryz.prog w=.ok r w')
  (hK:K (a.put o.dst r) w') :
  if Region.wanted o (yielded ops a.tmps)=true then Oper.wp Tryz.prog o a w K Q else E:=by
 have hw:Region.wanted o (yielded ops a.tmps)=true:=by simp [Region.wanted,hg]
 rw [if_pos hw]
 unfold Oper.wp
 simp [execOp,hop,resolve,invoke,builtin,hs,hx,ht,hrun,Result.andThen]
 exact hK
theorem qcz {ops:Array Oper} {o:Oper} {a:Act} {w:World} {K:Act->World->Prop} {Q:Exit->Act->World->Prop} {E:Prop} (hg:o.guard=none)
  (f:FuncId) (args:Array Value) (v:Value) (hrun:(execOp a.eval o).run Tryz.prog w=.ok (.enter f args) w)
  (hc:Calls Tryz.prog f args w fun e w'=>e=.returned v/\w'=w) (hK:K (a.put o.dst v) w) :
  if Region.wanted o (yielded ops a.tmps)=true then Oper.wp Tryz.prog o a w K Q else E:=by
 have hw:Region.wanted o (yielded ops a.tmps)=true:=by simp [Region.wanted,hg]
 rw [if_pos hw]
 unfold Oper.wp
 rw [hrun,Oper.upon_enter]
 refine hc.mono fun e w'' hh=>?_
 obtain ⟨rfl,rfl⟩:=hh
 exact hK
theorem qk (w:World):Below w.heap.size w w.drew:=⟨rfl,rfl,rfl,Nat.le_refl _,fun _ _=>rfl⟩
theorem qpn {S:Sp} {ms:List Int} {fd:List Bool} {i:Nat} {z:Int} (h:Zero S ms fd) (hz:z≠0):Zero S (ms.set i z) fd:=by
 intro j r x h0 hr hl hm
 rw [List.getElem?_set] at hm
 by_cases hij:i=j
 ·subst hij
  rw [if_pos rfl] at hm
  split at hm
  ·cases hm;exact absurd rfl hz
  ·cases hm
 ·rw [if_neg hij] at hm
  exact h j r x h0 hr hl hm
theorem qn7 {S:Sp} {ms:List Int} {fd fd':List Bool} {i:Nat} {z:Int} {r:SR} {x:Nat} (h:Zero S ms fd) (hr:S.rs[i]?=some r) (hl:r.l=(x:Int)) (hx:isF fd' x=true) (up:∀ y,isF fd y=true->isF fd' y=true):Zero S (ms.set i z) fd':=by
 intro j q y h0 hq hlq hm
 by_cases hij:i=j
 ·subst hij
  rw [hr] at hq
  cases hq
  rw [hl] at hlq
  have:x=y:=by omega
  subst this
  exact hx
 ·rw [List.getElem?_set,if_neg hij] at hm
  exact up y (h j q y h0 hq hlq hm)
theorem qpo {S:Sp} {ms:List Int} {fd:List Bool} {fr:List Nat} {i:Nat} {r:SR} {x:Nat} {ex:Nat->Nat} (hm:Miss S ms (prc fd fr) ex) (hz:ms[i]?=some 0) (h0:0<i) (hr:S.rs[i]?=some r) (hl:r.l=(x:Int)) (hd:yo S fd):Der S x:=by
 have h1:=hm i r h0 hr
 rw [hz] at h1
 simp only [Option.some.injEq] at h1
 have h2:nU (prc fd fr) r.r=0:=by omega
 refine Der.rule i r x h0 hr hl (fun y hy=>hd y ?_)
 have:=qly.1 h2 y hy
 unfold prc at this
 simp only [Bool.and_eq_true] at this
 exact this.1
def LK (w W:World) (h:SHd) (S:Sp) (p:YP) (b4 gm:Nat) (vs:List (Option Addr × Nat)) (wt:List (List Nat)) (n:Nat) (fd:List Bool) (fr:List Nat) (l:List Nat) (k:Nat):Prop :=
 ∃ va vc fd' fr' ms',YM w W h S p b4 gm va vc vs fd' fr' ms' wt/\ms'.length=S.rs.length/\Adds n fd fr fd' fr'/\Miss S ms' (prc fd fr) (fun j=>(l.drop k).count j)/\Zero S ms' fd'/\yo S fd'
theorem qla (w W:World) (h:SHd) (S:Sp) (p:YP) (b4 gm:Nat) (vs:List (Option Addr × Nat)) (wt:List (List Nat)) (n x:Nat) (fd:List Bool) (fr:List Nat) (l:List Nat) (y:LK w W h S p b4 gm vs wt n fd fr l 0) (hwf:WF S) (hsp:IsSp w h S) (hnn:n=S.tk+1+S.nt) (hl:wt[x]?=some l) (hw:∀ i∈l,0<i/\i<S.rs.length) (hd:yo S fd) (hll:l.length<=100000) :
  Calls Tryz.prog 78 #[.int .i64 (x:Int),.pointer (some ⟨p.b5,0,none⟩),.pointer (some ⟨b4,0,none⟩),.pointer (some ⟨p.b3,0,none⟩),.pointer (some ⟨p.b1,0,none⟩)] W fun e W'=>e=.returned (.tuple #[])/\LK w W' h S p b4 gm vs wt n fd fr l l.length:=by
 have HY:Hid (LK w W h S p b4 gm vs wt n fd fr l 0):=y
 have HWF:Hid (WF S/\IsSp w h S/\n=S.tk+1+S.nt/\yo S fd/\wt[x]?=some l):=⟨hwf,hsp,hnn,hd,hl⟩
 have HW:Hid (∀ i∈l,0<i/\i<S.rs.length):=hw
 obtain ⟨va0,vc0,fd0,fr0,ms0,y0,-⟩:=y
 obtain ⟨q,hq,c1,-⟩:=y0.yb.grd.at hl
 have c0:W.cell? ⟨p.b5,0,none⟩=some (.slice (some ⟨p.wb,0,none⟩) wt.length wt.length):=by rw [qe y0.yb.bw];rfl
 have hx:x<wt.length:=(List.getElem?_eq_some_iff.1 hl).1
 have HQ:Hid (vs[x]?=some q):=hq
 obtain ⟨qa,qc⟩:=q
 simp only at c1
 have hlc:=z8 (y0.yb.grd.row x _ l hq hl)
 simp only at hlc
 have hnr:S.rs.length<=300:=hwf.nr
 clear y0 hq hl hd hsp hwf hw hnn
 generalize wt.length=wn at c0 hx
 obtain ⟨m,HM⟩:∃ m,Hid (l.length=m):=⟨_,rfl⟩
 rw [HM.out] at c1 hll hlc ⊢
 go_enter Tryz.func78,Tryz.ntmps78
 go_wp2_with fail
 go_loopg [13] m (fun kx s13 wr=>∃ k:Nat,s13=.int .i64 k/\k<=m/\m - k<=kx/\Hid (LK w wr h S p b4 gm vs wt n fd fr l k))
 case atStart=>exact ⟨0,rfl,Nat.zero_le _,by omega,HY⟩
 case round =>
  clear c0 c1 HY
  obtain ⟨k,rfl,hk,hg,J⟩:=hrel
  by_cases hlt:k<m
  ·obtain ⟨va,vc,fd1,fr1,ms,y,hml,hA,hM,hZ,hD⟩:=J.out
   obtain ⟨i,hi⟩:∃ i,l[k]?=some i:=⟨l[k]'(by rw [HM.out];exact hlt),List.getElem?_eq_getElem _⟩
   obtain ⟨hi0,hi1⟩:=HW.out i (List.mem_of_getElem? hi)
   obtain ⟨r,hr⟩:∃ r,S.rs[i]?=some r:=⟨S.rs[i],List.getElem?_eq_getElem hi1⟩
   obtain ⟨xl,hxl,hxt,hxn⟩:=HWF.out.1.rl i r hi0 hr
   obtain ⟨z,hz,hz1,hz2,hM2⟩:=qnp hi hi0 hr hM
   have hrl:r.r.length<=100:=(HWF.out.1.rr r (List.mem_of_getElem? hr)).1
   have hrow:=y.yb.grd.row x _ l HQ.out HWF.out.2.2.2.2
   simp only at hrow
   rw [HM.out] at hrow hz2
   obtain ⟨qg,rfl⟩:∃ qg,qa=some ⟨qg,0,none⟩:=by
    obtain ⟨ao,c,e,-,-,h6⟩:=zh hrow
    cases e
    rcases h6 with ⟨-,h6,-⟩ | h6
    ·omega
    ·exact h6
   have d1:wr.cell? ⟨qg,k,none⟩=some (.int .i64 (i:Int)):=by
    rw [hrow.cellAt k (by omega)]
    unfold natC
    rw [List.getElem?_map,hi]
    rfl
   have d2:wr.cell? ⟨b4,0,none⟩=some (.slice (some ⟨gm,0,none⟩) ms.length ms.length):=by rw [qe y.bi];rfl
   have d3:wr.cell? ⟨gm,i,none⟩=some (.int .i64 z):=by
    rw [y.mis.cellAt i (by omega)]
    unfold intC
    rw [List.getElem?_map,hz]
    rfl
   have f3:wr.frozen? ⟨gm,i,none⟩=false:=y.mis.frozenAt i
   have hms:i<ms.length:=by omega
   have E2:∀ v:Int,(wr.setCell ⟨gm,i,none⟩ (.int .i64 v)).cell? ⟨b4,0,none⟩=some (.slice (some ⟨gm,0,none⟩) ms.length ms.length):=fun v=>by
    have y1:YM w (wr.setCell ⟨gm,i,none⟩ (.int .i64 v)) h S p b4 gm va vc vs fd1 fr1 (ms.set i v) wt:=y.put
    rw [qe y1.bi,List.length_set];rfl
   have E3:∀ v:Int,(wr.setCell ⟨gm,i,none⟩ (.int .i64 v)).cell? ⟨gm,i,none⟩=some (.int .i64 v):=fun v=>by
    have y1:YM w (wr.setCell ⟨gm,i,none⟩ (.int .i64 v)) h S p b4 gm va vc vs fd1 fr1 (ms.set i v) wt:=y.put
    rw [y1.mis.cellAt i (by rw [List.length_set];omega)]
    unfold intC
    rw [List.getElem?_map,List.getElem?_set_self hms]
    rfl
   rw [hml] at d2 E2
   have hi1':(i:Int)<(S.rs.length:Int):=by omega
   have hlt':(k:Int)<(m:Int):=by omega
   by_cases hz0:z=1
   ·subst hz0
    have e2:=E2 0
    have e3:=E3 0
    have y1:YM w (wr.setCell ⟨gm,i,none⟩ (.int .i64 0)) h S p b4 gm va vc vs fd1 fr1 (ms.set i 0) wt:=y.put
    have hM2:Miss S (ms.set i 0) (prc fd fr) (fun j=>(l.drop (k+1)).count j):=hM2
    obtain ⟨rb,ro,ra1,rc1,hra,g0,-,-,-,-⟩:=(HWF.out.2.1.rl.below y1.yb.bel).at hr
    obtain ⟨-,-,-,-,-,-,-,g7⟩:=sbox y1.yb.bs
    rw [hra] at g7
    rw [hxl] at g0
    have g3:(wr.setCell ⟨gm,i,none⟩ (.int .i64 0)).cell? ⟨p.b3,0,none⟩=some (.pointer (some ⟨p.mb,0,none⟩)):=by rw [qe y1.yb.bm];rfl
    have hrc:=j6 HWF.out.2.1.rl
    have HY1:Hid (YM w (wr.setCell ⟨gm,i,none⟩ (.int .i64 0)) h S p b4 gm va vc vs fd1 fr1 (ms.set i 0) wt):=y1
    have HX:Hid (xl<n/\n<=1000/\MK n fd1 fr1/\r.l=(xl:Int)/\S.rs[i]?=some r/\(ms.set i 0)[i]?=some 0):=⟨by rw [HWF.out.2.2.1];exact hxn,by rw [HWF.out.2.2.1];have:=HWF.out.1.tk;have:=HWF.out.1.nt;omega,hA.ok,hxl,hr,by rw [List.getElem?_set_self hms]⟩
    have HS:Hid (ms.length=S.rs.length/\Adds n fd fr fd1 fr1/\Miss S (ms.set i 0) (prc fd fr) (fun j=>(l.drop (k+1)).count j)/\Zero S ms fd1/\yo S fd1/\0<i):=⟨hml,hA,hM2,hZ,hD,hi0⟩
    have HRA:Hid (h.ra=some ⟨rb,ro,none⟩):=hra
    clear y y1 hml hA hM hM2 hZ hD hrow hi hr hxl hz J hra E2 E3
    obtain ⟨rn,HRN⟩:∃ rn,Hid (S.rs.length=rn):=⟨_,rfl⟩
    rw [HRN.out] at hnr hi1 d2 hi1' e2 g7 hrc
    generalize h.rc=rc at *
    go_upto_region 5 with fail
    generalize wr.setCell ⟨gm,i,none⟩ (.int .i64 0)=W1 at *
    clear e2 e3 d1 d2 d3 f3
    have HC:Hid (Calls Tryz.prog 68 #[.pointer (some ⟨p.mb,0,none⟩),.int .i64 (xl:Int)] W1.drew fun e W'=>e=.returned (.tuple #[])/\LK w W' h S p b4 gm vs wt n fd fr l (k+1)):=by
     have y1:=HY1.out.below (qk W1)
     refine (j7 _ w.heap.size p.mb p.fb vc n xl va fd1 fr1 y1.yb.mrk HX.out.2.2.1 HX.out.1 HX.out.2.1 y1.yb.bel.size).mono ?_
     rintro e W2 ⟨rfl,va2,vc2,hm2,hv2⟩
     obtain ⟨s1,s2,s3,s4,s5,s6⟩:=HS.out
     obtain ⟨t1,t2,t3,t4,t5,t6⟩:=HX.out
     obtain ⟨a1,a2,a3⟩:=y9 t3 t1
     have hdx:Der S xl:=qpo s3 t6 s6 t5 t4 HWF.out.2.2.2.1
     refine ⟨rfl,va2,vc2,_,_,_,y1.mark hm2 hv2,by rw [List.length_set];exact s1,s2.trans a1,s3,qn7 s4 t5 t4 a2 a1.up,fun z hz=>?_⟩
     rcases a3 z hz with e | e
     ·exact s5 z e
     ·subst e;exact hdx
    clear HY1 HX HS
    go_region_with (go_at_call 68;refine HC.out.mono ?_;rintro e W2 ⟨rfl,hW2⟩)
    all_goals
     have HF:Hid (LK w W2 h S p b4 gm vs wt n fd fr l (k+1)):=hW2
     clear hW2
     go_wp2_with fail
     go_roundg (m - (k+1))
     case measure=>omega
     case rel=>exact ⟨k+1,by simp,by omega,Nat.le_refl _,HF⟩
   ·have e2:=E2 (z - 1)
    have e3:=E3 (z - 1)
    have y1:YM w (wr.setCell ⟨gm,i,none⟩ (.int .i64 (z - 1))) h S p b4 gm va vc vs fd1 fr1 (ms.set i (z - 1)) wt:=y.put
    have HF:Hid (LK w (wr.setCell ⟨gm,i,none⟩ (.int .i64 (z - 1))) h S p b4 gm vs wt n fd fr l (k+1)):=⟨va,vc,fd1,fr1,_,y1,by rw [List.length_set];exact hml,hA,hM2,qpn hZ (by omega),hD⟩
    have hzb:(z - 1 == 0)=false:=by
     have:z - 1≠0:=by omega
     simpa using this
    clear y y1 hml hA hM hM2 hZ hD hrow hi hr hxl hz J E2 E3
    generalize S.rs.length=rn at *
    go_wp2_with fail
    go_roundg (m - (k+1))
    case measure=>omega
    case rel=>exact ⟨k+1,by simp,by omega,Nat.le_refl _,HF⟩
  ·have HF:Hid (LK w wr h S p b4 gm vs wt n fd fr l m):=by
    have:k=m:=by omega
    subst this
    exact J.out
   clear J
   go_wp2_with fail
   go_end0
   exact ⟨rfl,HF.out⟩
def LR (w W:World) (h:SHd) (S:Sp) (p:YP) (vs:List (Option Addr × Nat)) (wt:List (List Nat)) (n:Nat) (fd:List Bool) (fr:List Nat) (l:List Nat) (k:Nat):Prop :=
 ∃ va vc fd' fr',YB w W h S p va vc vs fd' fr' wt/\Adds n fd fr fd' fr'/\qd7 S fd'/\∀ (j i:Nat) (r:SR) (y:Nat),j<k->l[j]?=some i->S.rs[i]?=some r->y∈r.r->isF fd' y=true
def LR2 (w W:World) (h:SHd) (S:Sp) (p:YP) (vs:List (Option Addr × Nat)) (wt:List (List Nat)) (n:Nat) (fd:List Bool) (fr:List Nat) (l:List Nat) (k:Nat) (r:SR) (k2:Nat):Prop :=
 ∃ va vc fd' fr',YB w W h S p va vc vs fd' fr' wt/\Adds n fd fr fd' fr'/\qd7 S fd'/\(∀ (j i:Nat) (r:SR) (y:Nat),j<k->l[j]?=some i->S.rs[i]?=some r->y∈r.r->isF fd' y=true)/\∀ (j y:Nat),j<k2->r.r[j]?=some y->isF fd' y=true
theorem LR.open {w W:World} {h:SHd} {S:Sp} {p:YP} {vs:List (Option Addr × Nat)} {wt:List (List Nat)} {n:Nat} {fd:List Bool} {fr:List Nat} {l:List Nat} {k:Nat} (y:LR w W h S p vs wt n fd fr l k) (r:SR):LR2 w W h S p vs wt n fd fr l k r 0:=by
 obtain ⟨va,vc,fd',fr',h1,h2,h3,h4⟩:=y
 exact ⟨va,vc,fd',fr',h1,h2,h3,h4,fun j y hj=>absurd hj (Nat.not_lt_zero _)⟩
theorem LR2.shut {w W:World} {h:SHd} {S:Sp} {p:YP} {vs:List (Option Addr × Nat)} {wt:List (List Nat)} {n:Nat} {fd:List Bool} {fr:List Nat} {l:List Nat} {k i:Nat} {r:SR} (y:LR2 w W h S p vs wt n fd fr l k r r.r.length) (hi:l[k]?=some i) (hr:S.rs[i]?=some r):LR w W h S p vs wt n fd fr l (k+1):=by
 obtain ⟨va,vc,fd',fr',h1,h2,h3,h4,h5⟩:=y
 refine ⟨va,vc,fd',fr',h1,h2,h3,fun j i' r' y hj hi' hr' hy=>?_⟩
 rcases Nat.lt_or_ge j k with h | h
 ·exact h4 j i' r' y h hi' hr' hy
 ·have:j=k:=by omega
  subst this
  rw [hi] at hi'
  cases hi'
  rw [hr] at hr'
  cases hr'
  obtain ⟨m,hm⟩:=List.getElem?_of_mem hy
  exact h5 m y (List.getElem?_eq_some_iff.1 hm).1 hm
theorem LR2.below {w W W':World} {h:SHd} {S:Sp} {p:YP} {vs:List (Option Addr × Nat)} {wt:List (List Nat)} {n:Nat} {fd:List Bool} {fr:List Nat} {l:List Nat} {k k2:Nat} {r:SR} (y:LR2 w W h S p vs wt n fd fr l k r k2) (hb:Below W.heap.size W W'):LR2 w W' h S p vs wt n fd fr l k r k2:=by
 obtain ⟨va,vc,fd',fr',h1,h2⟩:=y
 exact ⟨va,vc,fd',fr',h1.below hb,h2⟩
theorem LR2.mark {w W:World} {h:SHd} {S:Sp} {p:YP} {vs:List (Option Addr × Nat)} {wt:List (List Nat)} {n:Nat} {fd:List Bool} {fr:List Nat} {l:List Nat} {k k2 z:Nat} {r:SR} (y:LR2 w W h S p vs wt n fd fr l k r k2) (hz:r.r[k2]?=some z) (hzn:z<n) (hn:n<=1000) (hzr:Rch S z) :
  Calls Tryz.prog 68 #[.pointer (some ⟨p.mb,0,none⟩),.int .i64 (z:Int)] W fun e W'=>e=.returned (.tuple #[])/\LR2 w W' h S p vs wt n fd fr l k r (k2+1):=by
 obtain ⟨va,vc,fd',fr',h1,h2,h3,h4,h5⟩:=y
 refine (j7 W w.heap.size p.mb p.fb vc n z va fd' fr' h1.mrk h2.ok hzn hn h1.bel.size).mono ?_
 rintro e W2 ⟨rfl,va2,vc2,hm2,hv2⟩
 obtain ⟨a1,a2,a3⟩:=y9 h2.ok hzn
 refine ⟨rfl,va2,vc2,_,_,h1.mark hm2 hv2,h2.trans a1,fun u hu=>?_,fun j i r y q1 q2 q3 q4=>a1.up y (h4 j i r y q1 q2 q3 q4),fun j y hj hy=>?_⟩
 ·rcases a3 u hu with e | e
  ·exact h3 u e
  ·subst e;exact hzr
 ·rcases Nat.lt_or_ge j k2 with h | h
  ·exact a1.up y (h5 j y h hy)
  ·have:j=k2:=by omega
   subst this
   rw [hz] at hy
   cases hy
   exact a2
theorem qlb (w W:World) (h:SHd) (S:Sp) (p:YP) (vs:List (Option Addr × Nat)) (wt:List (List Nat)) (n x:Nat) (fd:List Bool) (fr:List Nat) (l:List Nat) (y:LR w W h S p vs wt n fd fr l 0) (hwf:WF S) (hsp:IsSp w h S) (hnn:n=S.tk+1+S.nt) (hl:wt[x]?=some l) (hw:∀ i∈l,0<i/\∃ r,S.rs[i]?=some r/\r.l=(x:Int)) (hd:Rch S x) (hll:l.length<=100000) :
  Calls Tryz.prog 70 #[.int .i64 (x:Int),.pointer (some ⟨p.b5,0,none⟩),.pointer (some ⟨p.b1,0,none⟩),.pointer (some ⟨p.b3,0,none⟩)] W fun e W'=>e=.returned (.tuple #[])/\LR w W' h S p vs wt n fd fr l l.length:=by
 have HY:Hid (LR w W h S p vs wt n fd fr l 0):=y
 have HWF:Hid (WF S/\IsSp w h S/\n=S.tk+1+S.nt/\Rch S x/\wt[x]?=some l):=⟨hwf,hsp,hnn,hd,hl⟩
 have HW:Hid (∀ i∈l,0<i/\∃ r,S.rs[i]?=some r/\r.l=(x:Int)):=hw
 obtain ⟨va0,vc0,fd0,fr0,y0,-⟩:=y
 obtain ⟨q,hq,c1,-⟩:=y0.grd.at hl
 have c0:W.cell? ⟨p.b5,0,none⟩=some (.slice (some ⟨p.wb,0,none⟩) wt.length wt.length):=by rw [qe y0.bw];rfl
 have hx:x<wt.length:=(List.getElem?_eq_some_iff.1 hl).1
 have HQ:Hid (vs[x]?=some q):=hq
 obtain ⟨qa,qc⟩:=q
 simp only at c1
 have hlc:=z8 (y0.grd.row x _ l hq hl)
 simp only at hlc
 have hnr:S.rs.length<=300:=hwf.nr
 have HN:Hid (n<=1000):=by
  have h1:=hwf.tk
  have h2:=hwf.nt
  show n<=1000
  omega
 have HSY:Hid (∀ (V:World) (z:Nat),z<n->Calls Tryz.prog 67 #[.agg (sC h S),.int .i64 (z:Int)] V fun e w'=>e=.returned (.bool true)/\Below V.heap.size V w'):=fun V z hz=>qaa h S V n z (by rw [hnn];exact hwf.szs) hz
 clear y0 hq hl hd hsp hwf hw hnn
 generalize wt.length=wn at c0 hx
 obtain ⟨m,HM⟩:∃ m,Hid (l.length=m):=⟨_,rfl⟩
 rw [HM.out] at c1 hll hlc ⊢
 go_enter Tryz.func70,Tryz.ntmps70
 go_wp2_with fail
 go_loopg [14] m (fun kx s14 wr=>∃ k:Nat,s14=.int .i64 k/\k<=m/\m - k<=kx/\Hid (LR w wr h S p vs wt n fd fr l k))
 case atStart=>exact ⟨0,rfl,Nat.zero_le _,by omega,HY⟩
 case round =>
  clear c0 c1 HY
  obtain ⟨k,rfl,hk,hg,J⟩:=hrel
  by_cases hlt:k<m
  ·obtain ⟨va,vc,fd1,fr1,y,-⟩:=J.out
   obtain ⟨i,hi⟩:∃ i,l[k]?=some i:=⟨l[k]'(by rw [HM.out];exact hlt),List.getElem?_eq_getElem _⟩
   obtain ⟨hi0,r,hr,hrx⟩:=HW.out i (List.mem_of_getElem? hi)
   have hi1:i<S.rs.length:=(List.getElem?_eq_some_iff.1 hr).1
   have hrl:r.r.length<=100:=(HWF.out.1.rr r (List.mem_of_getElem? hr)).1
   have hrow:=y.grd.row x _ l HQ.out HWF.out.2.2.2.2
   simp only at hrow
   rw [HM.out] at hrow
   obtain ⟨qg,rfl⟩:∃ qg,qa=some ⟨qg,0,none⟩:=by
    obtain ⟨ao,c,e,-,-,h6⟩:=zh hrow
    cases e
    rcases h6 with ⟨-,h6,-⟩ | h6
    ·omega
    ·exact h6
   have d1:wr.cell? ⟨qg,k,none⟩=some (.int .i64 (i:Int)):=by
    rw [hrow.cellAt k (by omega)]
    unfold natC
    rw [List.getElem?_map,hi]
    rfl
   obtain ⟨rb,ro,xa,xc,hra,-,g1w,-,-,hxr⟩:=HWF.out.2.1.rl.at hr
   have g1:=qj y.bel g1w
   obtain ⟨-,-,-,-,-,-,-,g7⟩:=sbox y.bs
   rw [hra] at g7
   have hrc:=j6 HWF.out.2.1.rl
   have hxc:=ze hxr
   have HXR:Hid (Row w 1 xa r.r.length xc (natC r.r)):=hxr
   have HR:Hid (l[k]?=some i/\S.rs[i]?=some r/\∀ z∈r.r,z<n/\Rch S z):=⟨hi,hr,fun z hz=>⟨by rw [HWF.out.2.2.1];exact (HWF.out.1.rr r (List.mem_of_getElem? hr)).2 z hz,Rch.rule i r x z hi0 hr hrx HWF.out.2.2.2.1 hz⟩⟩
   have HY0:Hid (LR2 w wr h S p vs wt n fd fr l k r 0):=J.out.open r
   have HYB:Hid (YB w wr h S p va vc vs fd1 fr1 wt):=y
   have HRA:Hid (h.ra=some ⟨rb,ro,none⟩):=hra
   have hi1':(i:Int)<(S.rs.length:Int):=by omega
   have hlt':(k:Int)<(m:Int):=by omega
   clear y J hrow hi hr hrx hra hxr g1w
   generalize S.rs.length=rn at hnr hi1 g7 hrc hi1'
   generalize h.rc=rc at g7 hrc
   obtain ⟨rl,HRL⟩:∃ rl,Hid (r.r.length=rl):=⟨_,rfl⟩
   rw [HRL.out] at hrl hxc g1
   obtain ⟨wo,hwo⟩:∃ wo,wo=wr:=⟨_,rfl⟩
   subst wr
   go_wp2_with fail
   clear d1 g1 g7
   go_loopg [25] rl (fun kx s25 wr=>∃ k2:Nat,s25=.int .i64 k2/\k2<=rl/\rl - k2<=kx/\Hid (LR2 w wr h S p vs wt n fd fr l k r k2))
   case atStart=>exact ⟨0,rfl,Nat.zero_le _,by omega,HY0⟩
   case round =>
    clear HY0 HYB
    obtain ⟨k2,rfl,hk2,hg2,J⟩:=hrel
    by_cases hlt2:k2<rl
    ·have hlt2':(k2:Int)<(rl:Int):=by omega
     obtain ⟨z,hz⟩:∃ z,r.r[k2]?=some z:=⟨r.r[k2]'(by rw [HRL.out];exact hlt2),List.getElem?_eq_getElem _⟩
     obtain ⟨va2,vc2,fd2,fr2,y,-⟩:=J.out
     obtain ⟨b2,o2,hxa,q1⟩:=vj (HXR.out.below y.bel) hz
     subst hxa
     obtain ⟨hzn,hzr⟩:=HR.out.2.2 z (List.mem_of_getElem? hz)
     obtain ⟨s0,s1,s2,s3,s4,s5,s6,s7⟩:=sbox y.bs
     have HZ:Hid (r.r[k2]?=some z/\z<n/\Rch S z):=⟨hz,hzn,hzr⟩
     have HC:Hid (Calls Tryz.prog 67 #[.agg (sC h S),.int .i64 (z:Int)] wr fun e w'=>e=.returned (.bool true)/\Below wr.heap.size wr w'):=HSY.out wr z hzn
     unfold sC at HC
     clear y hz hzr
     go_wp2_with fail
     refine HC.out.mono ?_
     rintro e V ⟨rfl,hBV⟩
     have JV:Hid (LR2 w V h S p vs wt n fd fr l k r k2):=J.out.below hBV
     obtain ⟨va3,vc3,fd3,fr3,y3,-⟩:=JV.out
     have t3:V.cell? ⟨p.b3,0,none⟩=some (.pointer (some ⟨p.mb,0,none⟩)):=by rw [qe y3.bm];rfl
     clear y3 hBV HC J s0 s1 s2 s3 s4 s5 s6 s7 q1
     go_wp2_with fail
     refine (JV.out.mark HZ.out.1 HZ.out.2.1 HN.out HZ.out.2.2).mono ?_
     rintro e V2 ⟨rfl,hV2⟩
     have HV2:Hid (LR2 w V2 h S p vs wt n fd fr l k r (k2+1)):=hV2
     clear hV2 JV t3
     go_wp2_with fail
     go_roundg (rl - (k2+1))
     case measure=>omega
     case rel=>exact ⟨k2+1,by simp,by omega,Nat.le_refl _,HV2⟩
    ·have hlt2':¬ (k2:Int)<(rl:Int):=by omega
     have HF:Hid (LR w wr h S p vs wt n fd fr l (k+1)):=by
      have:k2=rl:=by omega
      subst this
      have j:=J.out
      rw [<-HRL.out] at j
      exact j.shut HR.out.1 HR.out.2.1
     clear J
     go_wp2_with fail
     go_roundg (m - (k+1))
     case measure=>omega
     case rel=>exact ⟨k+1,by simp,by omega,Nat.le_refl _,HF⟩
  ·have HF:Hid (LR w wr h S p vs wt n fd fr l m):=by
    have:k=m:=by omega
    subst this
    exact J.out
   clear J
   go_wp2_with fail
   go_end0
   exact ⟨rfl,HF.out⟩
theorem Grd.new {W:World} {base wb n:Nat} (h:W.ownsRow base 26 1 (.slice (some ⟨wb,0,none⟩) n n) n (List.replicate n (.slice none 0 0))):Grd W base wb (List.replicate n (none,0)) (List.replicate n []):=by
 refine ⟨by simp,?_,?_,?_⟩
 ·rw [List.length_replicate]
  have e:grC (List.replicate n (none,0)) (List.replicate n [])=List.replicate n (.slice none 0 0):=by
   unfold grC
   rw [List.zip_replicate,List.map_replicate,Nat.min_self]
   rfl
  rw [e]
  exact h
 ·intro x p l hp hl
  have h1:=List.mem_of_getElem? hp
  have h2:=List.mem_of_getElem? hl
  rw [List.mem_replicate] at h1 h2
  rw [h1.2,h2.2]
  exact World.ownsRow_nil _ _ _ _
 ·intro x y p q k _ hp _ hb
  have h1:=List.mem_of_getElem? hp
  rw [List.mem_replicate] at h1
  rw [h1.2] at hb
  cases hb
theorem qgl {n k:Nat} (h:GR (List.replicate n (none,0)) k):False:=by
 obtain ⟨x,p,hp,hb⟩:=h
 have h1:=List.mem_of_getElem? hp
 rw [List.mem_replicate] at h1
 rw [h1.2] at hb
 cases hb
theorem Mrk.mono {W:World} {base base' mb fb vc:Nat} {va:Option Addr} {fd:List Bool} {fr:List Nat} (h:Mrk W base mb fb va vc fd fr) (hb:base'<=base):Mrk W base' mb fb va vc fd fr :=
 ⟨h.box,zd h.fnd hb,zd h.frs hb,Nat.le_trans hb h.new⟩
theorem qn8 (V:World) (base n:Nat) (hn:n<=1000) (hb:base<=V.heap.size):∃ V',(Instr.makeSlice 26 (.int .i64 (n:Int)) (.int .i64 (n:Int))).run Tryz.prog V=.ok (.slice (some ⟨V.heap.size,0,none⟩) n n) V'/\V'.ownsRow base 3 1 (.slice (some ⟨V.heap.size,0,none⟩) n n) n (intC (List.replicate n 0))/\Below V.heap.size V V':=by
 obtain ⟨i0,hi,hz0,hz1,hz2⟩:=info_parts i3
 obtain ⟨w1,hr,ho,hg⟩:=run_make_full (P:=Tryz.prog) V base 26 3 i0 _ 1 u29 hi hz0 hz1 .i64 .i64 n (by rw [hz2];omega) (by unfold maxLen;omega) hb
 have e:(madeCells (Value.int .i64 0).cells (n * 1)).toList=intC (List.replicate n 0):=by
  have e:(Value.int .i64 0).cells=#[.int .i64 0]:=rfl
  rw [Nat.mul_one,e,toList_madeCells_one]
  unfold intC
  rw [List.map_replicate]
 rw [e] at ho
 exact ⟨w1,hr,ho,(Below.refl V.heap.size V).grown hg (Nat.le_refl _) (fun k hk=>by cases hk)⟩
theorem qcj (V:World) (base n:Nat) (hn:n<=1000) (hb:base<=V.heap.size):∃ V',(Instr.makeSlice 38 (.int .i64 (n:Int)) (.int .i64 (n:Int))).run Tryz.prog V=.ok (.slice (some ⟨V.heap.size,0,none⟩) n n) V'/\Grd V' base V.heap.size (List.replicate n (none,0)) (List.replicate n [])/\Below V.heap.size V V':=by
 obtain ⟨i0,hi,hz0,hz1,hz2⟩:=info_parts i29
 obtain ⟨w1,hr,ho,hg⟩:=run_make_full (P:=Tryz.prog) V base 38 26 i0 _ 1 u39 hi hz0 hz1 .i64 .i64 n (by rw [hz2];omega) (by unfold maxLen;omega) hb
 have e:(madeCells (Value.slice none 0 0).cells (n * 1)).toList=List.replicate n (.slice none 0 0):=by
  have e:(Value.slice none 0 0).cells=#[.slice none 0 0]:=rfl
  rw [Nat.mul_one,e,toList_madeCells_one]
 rw [e] at ho
 exact ⟨w1,hr,Grd.new ho,(Below.refl V.heap.size V).grown hg (Nat.le_refl _) (fun k hk=>by cases hk)⟩
def rgt (S:Sp) (j:Nat):List Nat:=((S.rs[j]?).map (·.r)).getD []
theorem qj4 {S:Sp} {j:Nat} {r:SR} (h:S.rs[j]?=some r):rgt S j=r.r:=by unfold rgt;rw [h];rfl
def cnt (S:Sp) (i k j x:Nat):Nat:=if 0<j/\j<i then (rgt S j).count x else if 0<j/\j=i then ((rgt S j).take k).count x else 0
def WtsK (S:Sp) (i k:Nat) (wt:List (List Nat)):Prop:=∀ (x:Nat) (l:List Nat),wt[x]?=some l->∀ j,l.count j=cnt S i k j x
theorem qn9 (S:Sp) (n k:Nat):WtsK S 0 k (List.replicate n []):=by
 intro x l hl j
 have h2:=List.mem_of_getElem? hl
 rw [List.mem_replicate] at h2
 rw [h2.2]
 unfold cnt
 rw [if_neg (by omega),if_neg (by omega)]
 rfl
theorem qoa {S:Sp} {wt:List (List Nat)} (h:WtsK S 0 0 wt):WtsK S 1 0 wt:=by
 intro x l hl j
 rw [h x l hl j]
 unfold cnt
 rw [if_neg (by omega),if_neg (by omega),if_neg (by omega)]
 split
 ·simp
 ·rfl
theorem qob {S:Sp} {i k:Nat} {wt:List (List Nat)} (h:WtsK S i k wt) (hk:(rgt S i).length<=k):WtsK S (i+1) 0 wt:=by
 intro x l hl j
 rw [h x l hl j]
 unfold cnt
 by_cases h0:0<j
 ·by_cases h1:j<i
  ·rw [if_pos ⟨h0,h1⟩,if_pos ⟨h0,by omega⟩]
  ·rw [if_neg (by omega)]
   by_cases h2:j=i
   ·subst h2
    rw [if_pos ⟨h0,rfl⟩,if_pos ⟨h0,by omega⟩,List.take_of_length_le hk]
   ·rw [if_neg (by omega),if_neg (by omega)]
    split
    ·simp
    ·rfl
 ·rw [if_neg (by omega),if_neg (by omega),if_neg (by omega),if_neg (by omega)]
theorem qoc {S:Sp} {i k x:Nat} {wt:List (List Nat)} {l:List Nat} (h:WtsK S i k wt) (hi:0<i) (hx:(rgt S i)[k]?=some x) (hl:wt[x]?=some l):WtsK S i (k+1) (wt.set x (l++[i])):=by
 intro y m hm j
 rw [List.getElem?_set] at hm
 have hxl:x<wt.length:=(List.getElem?_eq_some_iff.1 hl).1
 have step:∀ y,cnt S i (k+1) j y=cnt S i k j y+if j=i/\x=y then 1 else 0:=by
  intro y
  unfold cnt
  by_cases h1:0<j/\j<i
  ·rw [if_pos h1,if_pos h1,if_neg (by omega),Nat.add_zero]
  ·rw [if_neg h1,if_neg h1]
   by_cases h2:0<j/\j=i
   ·rw [if_pos h2,if_pos h2]
    obtain ⟨-,rfl⟩:=h2
    rw [zn hx,List.count_append]
    by_cases h3:x=y
    ·subst h3;simp
    ·simp [h3]
   ·rw [if_neg h2,if_neg h2,if_neg (by omega)]
 rw [step y]
 by_cases hy:x=y
 ·subst hy
  rw [if_pos rfl,if_pos hxl] at hm
  cases hm
  rw [List.count_append,h x l hl j]
  by_cases hj:j=i
  ·subst hj;simp
  ·have:¬ i=j:=fun e=>hj e.symm
   simp [hj,this]
 ·rw [if_neg hy] at hm
  rw [h y m hm j]
  simp [hy]
theorem qpp {S:Sp} {wt:List (List Nat)} (h:WtsK S S.rs.length 0 wt):Wts S S.rs.length wt:=by
 intro x l hl j
 rw [h x l hl j]
 unfold cnt
 cases hr:S.rs[j]? with
 | none =>
  have:¬ j<S.rs.length:=by rw [List.getElem?_eq_none_iff] at hr;omega
  rw [if_neg (by omega)]
  split
  ·simp
  ·rfl
 | some r =>
  simp only
  rw [qj4 hr]
  have hj:j<S.rs.length:=(List.getElem?_eq_some_iff.1 hr).1
  by_cases h0:0<j
  ·rw [if_pos ⟨h0,hj⟩,if_pos ⟨h0,hj⟩]
  ·rw [if_neg (by omega),if_neg (by omega),if_neg (by omega)]
theorem qq3 {S:Sp} {wt:List (List Nat)} {x:Nat} {l:List Nat} (h:Wts S S.rs.length wt) (hl:wt[x]?=some l):∀ i∈l,0<i/\i<S.rs.length:=by
 intro i hi
 have hc:0<l.count i:=List.count_pos_iff.2 hi
 rw [h x l hl i] at hc
 cases hr:S.rs[i]? with
 | none=>rw [hr] at hc;simp at hc
 | some r =>
  rw [hr] at hc
  simp only at hc
  split at hc
  ·assumption
  ·omega
end Go.Proofs.YtngclmglmhiljaaGreatDoor
