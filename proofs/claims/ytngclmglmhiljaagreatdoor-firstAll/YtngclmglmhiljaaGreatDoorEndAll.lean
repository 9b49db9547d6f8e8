/-
  Of any grammar that means something, any numbers and any token behind: what may be empty, what can stand first, what behind is just what the document says.
-/
import Derived.ChangeSlices
import Derived.Deep.Matrix
import Derived.Deep.RegionHeld
import Derived.Test.YtngclmglmhiljaaGreatDoorCards
import Derived.Test.YtngclmglmhiljaaGreatDoorTie
import Derived.OpenShut
import Derived.ShutString
import Derived.ChangeOld
import Derived.Below
import Derived.SevenTiedAt
import Derived.Test.YtngclmglmhiljaaGreatDoorOthAll
set_option maxHeartbeats 16000000
set_option maxRecDepth 100000
namespace Go.Proofs.YtngclmglmhiljaaGreatDoor
open Go.RowKit
structure RawI (w:World) (ao:Option Addr) (n cap:Nat) (zs:List Int):Prop where
 le:n<=cap/\cap<=9223372036854775807
 get:∀i,i<n->∃b o,ao=some ⟨b,o,none⟩/\w.cell? ⟨b,o+i,none⟩=some (.int .i64 (zs.getD i 0))
theorem RawI.below{w f:World}{d:Option Addr}{n a:Nat}{zs:List Int}(h:RawI w d n a zs)(g:Below w.heap.size w f):RawI f d n a zs :=
 ⟨h.le,fun i j=>by obtain⟨b,o,e,c⟩:=h.get i j;exact⟨b,o,e,qj g c⟩⟩
theorem uan(z:Int)(m:Int)(a:0<m):-m<z.tmod m/\z.tmod m<m:=by
 refine⟨?_,Int.tmod_lt_of_pos z a⟩
 have h:=Int.tmod_lt_of_pos (-z) a
 rw[Int.neg_tmod]at h
 omega
theorem ub7{H:Type}{enc:TypeId × Value->H}{W:World}{j:Option Addr}{n a:Nat}{d:DataW H}{r:List MemPlace}(h:DataW.Trod enc Tryz.prog W 0 (fun _=>true) true 26 (.slice j n a) d r):∃zs,RawI W j n a zs:=by
 obtain⟨fuel,p⟩:=h
 rcases ChangeShapes.open_ints Tryz.underlying26 Tryz.underlying3 (by kernel_rfl) p with ⟨hcs,_⟩ | ⟨x,l,c,zs,hcs,_,hl,hm,hz,_,hcell,hwz⟩
 ·simp[Value.cells]at hcs
  obtain⟨rfl,rfl,rfl⟩:=hcs
  exact⟨[],⟨Nat.le_refl _,by omega⟩,fun i m=>absurd m (Nat.not_lt_zero _)⟩
 ·simp[Value.cells]at hcs
  obtain⟨rfl,rfl,rfl⟩:=hcs
  have q:zs.length=a:=by simpa using hz
  refine⟨zs,⟨hl,by unfold maxLen at hm;omega⟩,fun i m=>?_⟩
  have k:=hcell i (by omega)
  have o:=hcell 0 (by omega)
  obtain⟨b,off,g⟩:=x
  have f:g=none:=by simpa [Addr.add] using World.cell?_spot o
  subst f
  rw[Addr.add_lit]at k
  exact⟨b,off,rfl,k⟩
theorem ucv{G:Gm}{k:Int}(b:OfR G k)(a:k=0):∃n,NSp (spK G k) n:=by
 unfold spK
 rw[if_pos a]
 subst a
 exact⟨_,qqy b⟩
theorem ucs{m:Nat}{Q:Nat->Prop}{l:List Nat}(h:IsL m Q l):l.length<=m:=by
 obtain⟨b,a,rfl⟩:=h
 have:=List.length_filter_le b (List.range m)
 rw[List.length_range]at this
 exact this
theorem ubl(F:List Nat)(x v:Nat):u6C (F.set x v)=(u6C F).set x (.int .u64 (v:Int)):=by unfold u6C;rw[List.map_set]
theorem RT8.setF{W:World}{B c:Nat}{p:RP8}{h:SHd}{S:Sp}{n:Nat}{E:List Bool}{F G:List Nat}(r:RT8 W B c p h S n E F G)(x v:Nat):RT8 (W.setCell ⟨p.fb,x,none⟩ (.int .u64 (v:Int))) B c p h S n E (F.set x v) G:=by
 have d:=qw r.fst (b:=p.fb) rfl
 refine⟨(Below.heap_setCell _ _ _ _ (show c≠p.fb from qr ⟨_,r.box⟩ d.2.2 (by decide))).trans r.box,r.new,?_,?_,?_,r.ne⟩
 ·exact qh r.emp (fun i a=>Below.heap_setCell _ _ _ _ (qr (qx r.emp a) d.2.2 (by decide)))
 ·rw[ubl]
  exact(r.fst.stored x _).1
 ·exact qh r.fol (fun i a=>Below.heap_setCell _ _ _ _ (by
   cases a
   exact fun e=>r.ne e.symm))
theorem RT8.setG{W:World}{B c:Nat}{p:RP8}{h:SHd}{S:Sp}{n:Nat}{E:List Bool}{F G:List Nat}(r:RT8 W B c p h S n E F G)(x v:Nat):RT8 (W.setCell ⟨p.gb,x,none⟩ (.int .u64 (v:Int))) B c p h S n E F (G.set x v):=by
 have d:=qw r.fol (b:=p.gb) rfl
 refine⟨(Below.heap_setCell _ _ _ _ (show c≠p.gb from qr ⟨_,r.box⟩ d.2.2 (by decide))).trans r.box,r.new,?_,?_,?_,r.ne⟩
 ·exact qh r.emp (fun i a=>Below.heap_setCell _ _ _ _ (qr (qx r.emp a) d.2.2 (by decide)))
 ·exact qh r.fst (fun i a=>Below.heap_setCell _ _ _ _ (by
   cases a
   exact r.ne))
 ·rw[ubl]
  exact(r.fol.stored x _).1
theorem RT8.setE{W:World}{B d:Nat}{p:RP8}{h:SHd}{S:Sp}{n:Nat}{E:List Bool}{F G:List Nat}(r:RT8 W B d p h S n E F G)(x:Nat)(b:Bool):RT8 (W.setCell ⟨p.eb,x,none⟩ (.bool b)) B d p h S n (E.set x b) F G:=by
 have c:=qw r.emp (b:=p.eb) rfl
 refine⟨(Below.heap_setCell _ _ _ _ (show d≠p.eb from qr ⟨_,r.box⟩ c.2.2 (by decide))).trans r.box,r.new,?_,?_,?_,r.ne⟩
 ·rw[qdd]
  exact(r.emp.stored x _).1
 ·exact qh r.fst (fun i a=>Below.heap_setCell _ _ _ _ (qr (qx r.fst a) c.2.2 (by decide)))
 ·exact qh r.fol (fun i a=>Below.heap_setCell _ _ _ _ (qr (qx r.fol a) c.2.2 (by decide)))
structure NW (w W:World) (h:SHd) (S:Sp) (b1 rb:Nat) (p:RP8) (n:Nat) (E:List Bool) (F G:List Nat):Prop where
 bel:Below w.heap.size w W
 bs:W.heap[b1]?=some (.cells (sC h S) 31 (0,0))
 rt:RT8 W w.heap.size rb p h S n E F G
theorem NW.step{w W b:World}{h:SHd}{S:Sp}{c d:Nat}{p:RP8}{n:Nat}{E:List Bool}{F G:List Nat}(y:NW w W h S c d p n E F G)(a:Below W.heap.size W b):NW w b h S c d p n E F G:=⟨qd y.bel a,qf a y.bs,y.rt.below a⟩
theorem NW.setF{w W:World}{h:SHd}{S:Sp}{a d:Nat}{p:RP8}{n:Nat}{E:List Bool}{F G:List Nat}(y:NW w W h S a d p n E F G)(x v:Nat):NW w (W.setCell ⟨p.fb,x,none⟩ (.int .u64 (v:Int))) h S a d p n E (F.set x v) G:=by
 have c:=qw y.rt.fst (b:=p.fb) rfl
 exact⟨y.bel.setCell (p:=⟨p.fb,x,none⟩) c.1 _,(Below.heap_setCell _ _ _ _ (show a≠p.fb from qr ⟨_,y.bs⟩ c.2.2 (by decide))).trans y.bs,y.rt.setF x v⟩
theorem NW.setG{w W:World}{h:SHd}{S:Sp}{a d:Nat}{p:RP8}{n:Nat}{E:List Bool}{F G:List Nat}(y:NW w W h S a d p n E F G)(x v:Nat):NW w (W.setCell ⟨p.gb,x,none⟩ (.int .u64 (v:Int))) h S a d p n E F (G.set x v):=by
 have c:=qw y.rt.fol (b:=p.gb) rfl
 exact⟨y.bel.setCell (p:=⟨p.gb,x,none⟩) c.1 _,(Below.heap_setCell _ _ _ _ (show a≠p.gb from qr ⟨_,y.bs⟩ c.2.2 (by decide))).trans y.bs,y.rt.setG x v⟩
theorem NW.setE{w W:World}{h:SHd}{S:Sp}{a d:Nat}{p:RP8}{n:Nat}{E:List Bool}{F G:List Nat}(y:NW w W h S a d p n E F G)(x:Nat)(b:Bool):NW w (W.setCell ⟨p.eb,x,none⟩ (.bool b)) h S a d p n (E.set x b) F G:=by
 have c:=qw y.rt.emp (b:=p.eb) rfl
 exact⟨y.bel.setCell (p:=⟨p.eb,x,none⟩) c.1 _,(Below.heap_setCell _ _ _ _ (show a≠p.eb from qr ⟨_,y.bs⟩ c.2.2 (by decide))).trans y.bs,y.rt.setE x b⟩
theorem NW.apart{w W:World}{h:SHd}{S:Sp}{a c:Nat}{p:RP8}{n:Nat}{E:List Bool}{F G:List Nat}(y:NW w W h S a c p n E F G):p.eb≠c/\p.fb≠c/\p.gb≠c/\p.eb≠a/\p.fb≠a/\p.gb≠a:=by
 have d:=(qw y.rt.emp (b:=p.eb) rfl).2.2
 have f:=(qw y.rt.fst (b:=p.fb) rfl).2.2
 have g:=(qw y.rt.fol (b:=p.gb) rfl).2.2
 exact⟨qr d ⟨_,y.rt.box⟩ (by decide),qr f ⟨_,y.rt.box⟩ (by decide),qr g ⟨_,y.rt.box⟩ (by decide),qr d ⟨_,y.bs⟩ (by decide),qr f ⟨_,y.bs⟩ (by decide),qr g ⟨_,y.bs⟩ (by decide)⟩
def bz (n:Nat):Array Value:=madeCells (Value.bool false).cells (n * 1)
def uz (n:Nat):Array Value:=madeCells (Value.int .u64 0).cells (n * 1)
theorem u70:Tryz.prog.underlying 70=some (.slice 74):=by kernel_rfl
theorem i74:(Tryz.prog.info? 74).map (fun i=>(i.zero,i.size,i.bytes))=some (some (.int .u64 0),1,8):=by kernel_rfl
theorem ucm(n:Nat):(uz n).toList=u6C (List.replicate n 0):=by
 have e:(Value.int .u64 0).cells=#[Value.int .u64 0]:=rfl
 unfold uz
 rw[Nat.mul_one,e,toList_madeCells_one]
 unfold u6C
 rw[List.map_replicate]
 rfl
theorem ub8(n:Nat)(g:n<=1000)(V:World):(Instr.makeSlice 41 (.int .i64 (n:Int)) (.int .i64 (n:Int))).run Tryz.prog V=.ok (.slice (some ⟨V.heap.size,0,none⟩) n n) (V.alloc (.cells (bz n) 4)):=by
 obtain⟨f,d,a,b,c⟩:=info_parts i4
 have h:=run_make (P:=Tryz.prog) V 41 4 f _ u51 d a .i64 .i64 (n:Int) (n:Int) (by omega) (by omega) (by rw[c];omega) (by omega)
 rw[Int.toNat_natCast,b]at h
 exact h
theorem ub9(n:Nat)(g:n<=1000)(V:World):(Instr.makeSlice 70 (.int .i64 (n:Int)) (.int .i64 (n:Int))).run Tryz.prog V=.ok (.slice (some ⟨V.heap.size,0,none⟩) n n) (V.alloc (.cells (uz n) 74)):=by
 obtain⟨f,d,a,b,c⟩:=info_parts i74
 have h:=run_make (P:=Tryz.prog) V 70 74 f _ u70 d a .i64 .i64 (n:Int) (n:Int) (by omega) (by omega) (by rw[c];omega) (by omega)
 rw[Int.toNat_natCast,b]at h
 exact h
theorem ua5(n:Nat)(b:n<=1000)(V:World)(B:Nat)(d:B<=V.heap.size):(V.alloc (.cells (bz n) 4)).ownsRow B 4 1 (.slice (some ⟨V.heap.size,0,none⟩) n n) n (booC (List.replicate n false)):=by
 obtain⟨f,a,c,-⟩:=qgr V B n b d
 rw[ub8 n b V]at a
 cases a
 exact c
theorem uag(n:Nat)(i:n<=1000)(V:World)(B:Nat)(g:B<=V.heap.size):(V.alloc (.cells (uz n) 74)).ownsRow B 74 1 (.slice (some ⟨V.heap.size,0,none⟩) n n) n (u6C (List.replicate n 0)):=by
 obtain⟨j,h,a,b,c⟩:=info_parts i74
 obtain⟨k,d,f,-⟩:=run_make_full (P:=Tryz.prog) V B 70 74 j _ 1 u70 h a b .i64 .i64 n (by rw[c];omega) (by unfold maxLen;omega) g
 rw[ub9 n i V]at d
 cases d
 rw[<-ucm]
 exact f
theorem uap{w V:World}{h:SHd}{S:Sp}{n f c a b:Nat}(g:Below w.heap.size w V)(i:V.heap[f]?=some (.cells (sC h S) 31 (0,0)))(j:V.ownsRow w.heap.size 4 1 (.slice (some ⟨c,0,none⟩) n n) n (booC (List.replicate n false)))(k:V.ownsRow w.heap.size 74 1 (.slice (some ⟨a,0,none⟩) n n) n (u6C (List.replicate n 0)))(l:V.ownsRow w.heap.size 74 1 (.slice (some ⟨b,0,none⟩) n n) n (u6C (List.replicate n 0)))(d:a≠b):
  NW w (V.alloc (.cells #[.int .i64 (S.tk:Int),.int .i64 (S.nt:Int),.int .i64 (S.st:Int),.int .i64 S.ex,.slice h.na S.nm.length h.nc,.slice h.la S.lv.length h.lc,.slice h.aa S.az.length h.ac,.slice h.ra S.rs.length h.rc,.slice (some ⟨c,0,none⟩) n n,.slice (some ⟨a,0,none⟩) n n,.slice (some ⟨b,0,none⟩) n n] 72)) h S f V.heap.size ⟨c,a,b⟩ n (List.replicate n false) (List.replicate n 0) (List.replicate n 0):=by
 refine⟨qd g (qb _ _),qf (qb _ _) i,⟨heap_alloc_new _ _,g.size,zw j (qb _ _),zw k (qb _ _),zw l (qb _ _),d⟩⟩
theorem ucw{w V:World}{n:Nat}(b:n<=1000)(f:Below w.heap.size w V):Below V.heap.size V (((V.alloc (.cells (bz n) 4)).alloc (.cells (uz n) 74)).alloc (.cells (uz n) 74))/\(((V.alloc (.cells (bz n) 4)).alloc (.cells (uz n) 74)).alloc (.cells (uz n) 74)).ownsRow w.heap.size 4 1 (.slice (some ⟨V.heap.size,0,none⟩) n n) n (booC (List.replicate n false))/\(((V.alloc (.cells (bz n) 4)).alloc (.cells (uz n) 74)).alloc (.cells (uz n) 74)).ownsRow w.heap.size 74 1 (.slice (some ⟨V.heap.size+1,0,none⟩) n n) n (u6C (List.replicate n 0))/\(((V.alloc (.cells (bz n) 4)).alloc (.cells (uz n) 74)).alloc (.cells (uz n) 74)).ownsRow w.heap.size 74 1 (.slice (some ⟨V.heap.size+1+1,0,none⟩) n n) n (u6C (List.replicate n 0))/\(((V.alloc (.cells (bz n) 4)).alloc (.cells (uz n) 74)).alloc (.cells (uz n) 74)).heap.size=V.heap.size+1+1+1:=by
 have s0:=f.size
 have c:=ua5 n b V w.heap.size s0
 have a:=uag n b (V.alloc (.cells (bz n) 4)) w.heap.size (by rw[qt];omega)
 have d:=uag n b ((V.alloc (.cells (bz n) 4)).alloc (.cells (uz n) 74)) w.heap.size (by rw[qt,qt];omega)
 have c:=zw (zw c (qb _ (.cells (uz n) 74))) (qb _ (.cells (uz n) 74))
 have a:=zw a (qb _ (.cells (uz n) 74))
 rw[qt]at a
 rw[qt,qt]at d
 exact⟨qd (qd (qb _ _) (qb _ _)) (qb _ _),c,a,d,by rw[qt,qt,qt]⟩
theorem ucx{w V:World}{n:Nat}(b:n<=1000)(f:Below w.heap.size w V):Below V.heap.size V (((V.alloc (.cells (uz n) 74)).alloc (.cells (bz n) 4)).alloc (.cells (uz n) 74))/\(((V.alloc (.cells (uz n) 74)).alloc (.cells (bz n) 4)).alloc (.cells (uz n) 74)).ownsRow w.heap.size 4 1 (.slice (some ⟨V.heap.size+1,0,none⟩) n n) n (booC (List.replicate n false))/\(((V.alloc (.cells (uz n) 74)).alloc (.cells (bz n) 4)).alloc (.cells (uz n) 74)).ownsRow w.heap.size 74 1 (.slice (some ⟨V.heap.size,0,none⟩) n n) n (u6C (List.replicate n 0))/\(((V.alloc (.cells (uz n) 74)).alloc (.cells (bz n) 4)).alloc (.cells (uz n) 74)).ownsRow w.heap.size 74 1 (.slice (some ⟨V.heap.size+1+1,0,none⟩) n n) n (u6C (List.replicate n 0))/\(((V.alloc (.cells (uz n) 74)).alloc (.cells (bz n) 4)).alloc (.cells (uz n) 74)).heap.size=V.heap.size+1+1+1:=by
 have s0:=f.size
 have c:=uag n b V w.heap.size s0
 have a:=ua5 n b (V.alloc (.cells (uz n) 74)) w.heap.size (by rw[qt];omega)
 have d:=uag n b ((V.alloc (.cells (uz n) 74)).alloc (.cells (bz n) 4)) w.heap.size (by rw[qt,qt];omega)
 have c:=zw (zw c (qb _ (.cells (bz n) 4))) (qb _ (.cells (uz n) 74))
 have a:=zw a (qb _ (.cells (uz n) 74))
 rw[qt]at a
 rw[qt,qt]at d
 exact⟨qd (qd (qb _ _) (qb _ _)) (qb _ _),a,c,d,by rw[qt,qt,qt]⟩
theorem ucy{w V:World}{n:Nat}(b:n<=1000)(f:Below w.heap.size w V):Below V.heap.size V (((V.alloc (.cells (uz n) 74)).alloc (.cells (uz n) 74)).alloc (.cells (bz n) 4))/\(((V.alloc (.cells (uz n) 74)).alloc (.cells (uz n) 74)).alloc (.cells (bz n) 4)).ownsRow w.heap.size 4 1 (.slice (some ⟨V.heap.size+1+1,0,none⟩) n n) n (booC (List.replicate n false))/\(((V.alloc (.cells (uz n) 74)).alloc (.cells (uz n) 74)).alloc (.cells (bz n) 4)).ownsRow w.heap.size 74 1 (.slice (some ⟨V.heap.size,0,none⟩) n n) n (u6C (List.replicate n 0))/\(((V.alloc (.cells (uz n) 74)).alloc (.cells (uz n) 74)).alloc (.cells (bz n) 4)).ownsRow w.heap.size 74 1 (.slice (some ⟨V.heap.size+1,0,none⟩) n n) n (u6C (List.replicate n 0))/\(((V.alloc (.cells (uz n) 74)).alloc (.cells (uz n) 74)).alloc (.cells (bz n) 4)).heap.size=V.heap.size+1+1+1:=by
 have s0:=f.size
 have c:=uag n b V w.heap.size s0
 have a:=uag n b (V.alloc (.cells (uz n) 74)) w.heap.size (by rw[qt];omega)
 have d:=ua5 n b ((V.alloc (.cells (uz n) 74)).alloc (.cells (uz n) 74)) w.heap.size (by rw[qt,qt];omega)
 have c:=zw (zw c (qb _ (.cells (uz n) 74))) (qb _ (.cells (bz n) 4))
 have a:=zw a (qb _ (.cells (bz n) 4))
 rw[qt]at a
 rw[qt,qt]at d
 exact⟨qd (qd (qb _ _) (qb _ _)) (qb _ _),d,c,a,by rw[qt,qt,qt]⟩
def F0 (n k:Nat):List Nat:=(List.range n).map (fun x=>if x<k then 2 ^ x else 0)
theorem uaj(n k:Nat):(F0 n k).length=n:=by unfold F0;rw[List.length_map,List.length_range]
theorem uaz{n k x:Nat}(a:x<n):(F0 n k)[x]?=some (if x<k then 2 ^ x else 0):=by
 unfold F0
 rw[List.getElem?_map,List.getElem?_range a]
 rfl
theorem ucn(n:Nat):F0 n 0=List.replicate n 0:=by
 apply List.ext_getElem?
 intro i
 by_cases a:i<n
 ·rw[uaz a,List.getElem?_replicate,if_pos a,if_neg (Nat.not_lt_zero i)]
 ·rw[List.getElem?_eq_none (by rw[uaj];omega),List.getElem?_eq_none (by rw[List.length_replicate];omega)]
theorem uct{n k:Nat}(c:k<n):(F0 n k).set k (2 ^ k)=F0 n (k+1):=by
 apply List.ext_getElem?
 intro i
 rw[List.getElem?_set]
 by_cases b:i<n
 ·rw[uaz b]
  by_cases a:k=i
  ·subst a
   rw[if_pos rfl,if_pos (by rw[uaj];exact c),uaz c,if_pos (Nat.lt_succ_self k)]
  ·rw[if_neg a,uaz b]
   by_cases d:i<k
   ·rw[if_pos d,if_pos (by omega)]
   ·rw[if_neg d,if_neg (by omega)]
 ·rw[if_neg (by omega),List.getElem?_eq_none (by rw[uaj];omega),List.getElem?_eq_none (by rw[uaj];omega)]
theorem TF.begin{S:Sp}{n:Nat}(h:S.tk<n)(f:S.tk<64):TF S n (List.replicate n false) (F0 n S.tk):=by
 have d:∀x,wd (F0 n S.tk) x=if x<S.tk then 2 ^ x else 0:=by
  intro x
  unfold wd
  by_cases a:x<n
  ·rw[uaz a];rfl
  ·rw[List.getElem?_eq_none (by rw[uaj];omega),if_neg (by omega)];rfl
 refine⟨List.length_replicate,uaj _ _,fun w g=>?_,fun x a=>(by rw[qhp]at a;cases a),fun x t b=>?_,fun x a=>?_⟩
 ·obtain⟨x,a⟩:=List.getElem?_of_mem g
  have c:x<n:=by have:=(List.getElem?_eq_some_iff.1 a).1;rwa [uaj]at this
  rw[uaz c]at a
  cases a
  split
  ·exact Nat.pow_lt_pow_right (by decide) (by omega)
  ·exact Nat.two_pow_pos 64
 ·unfold tb at b
  rw[d]at b
  split at b
  ·rename_i hl
   rw[Nat.testBit_two_pow]at b
   have:x=t:=by simpa using b
   subst this
   exact FstP.tok x hl
  ·rw[Nat.zero_testBit]at b
   cases b
 ·unfold tb
  rw[d,if_pos a,Nat.testBit_two_pow_self]
theorem TG.begin{S:Sp}{n:Nat}(c:S.st<n)(b:S.tk<64):TG S n ((List.replicate n 0).set S.st (2 ^ S.tk)):=by
 have d:S.st<(List.replicate n 0).length:=by rw[List.length_replicate];exact c
 have g:∀x,wd (List.replicate n 0) x=0:=by
  intro x
  unfold wd
  rw[List.getElem?_replicate]
  split <;> rfl
 refine⟨by rw[List.length_set,List.length_replicate],fun w f=>?_,fun x t a=>?_,?_⟩
 ·rcases List.mem_or_eq_of_mem_set f with h1 | rfl
  ·rw[List.mem_replicate]at h1
   rw[h1.2]
   exact Nat.two_pow_pos 64
  ·exact Nat.pow_lt_pow_right (by decide) b
 ·unfold tb at a
  rw[ua9 d]at a
  split at a
  ·rename_i he
   subst he
   rw[Nat.testBit_two_pow]at a
   have:S.tk=t:=by simpa using a
   subst this
   exact FolP.start
  ·rw[g,Nat.zero_testBit]at a
   cases a
 ·unfold tb
  rw[ua9 d,if_pos rfl,Nat.testBit_two_pow_self]
theorem uca{w:World}{b o n a k:Nat}{l:List Nat}(h:Row w 1 (some ⟨b,o,none⟩) n a (natC l))(m:k<=n):Row w 1 (some ⟨b,o+k,none⟩) (n - k) (a - k) (natC (l.drop k)):=by
 have d:=h.len
 have g:=h.le
 have i:=h.max
 have f:l.length=n:=by unfold natC at d;rw[List.length_map]at d;omega
 refine⟨by unfold natC;rw[List.length_map,List.length_drop];omega,by omega,by omega,.inr ⟨b,o+k,rfl,fun j u c=>?_⟩⟩
 rcases h.lies with ⟨e,-⟩ | ⟨b',o',e,hc⟩
 ·cases e
 ·cases e
  rw[Nat.add_assoc]
  refine hc (k+j) u ?_
  unfold natC at c ⊢
  rw[List.getElem?_map]at c ⊢
  rw[List.getElem?_drop]at c
  exact c
structure Told8 (S:Sp) (n:Nat) (E:List Bool) (F G:List Nat):Prop where
 el:E.length=n
 fl:F.length=n
 gl:G.length=n
 flt:∀w∈F,w<2 ^ 64
 glt:∀w∈G,w<2 ^ 64
 ef:(∀x,isF E x=true↔Nul S x)/\∀x t,tb F x t=true↔FstP S x t
 fol:∀x t,tb G x t=true↔FolP S x t
def RN1 (w W:World) (h:SHd) (S:Sp) (b1 rb:Nat) (p:RP8) (n:Nat) (E:List Bool) (F:List Nat):Prop:=NW w W h S b1 rb p n E F (List.replicate n 0)/\TF S n E F
def uak (S:Sp) (E:List Bool) (F:List Nat) (i:Nat):Prop:=∀j,0<j->j<i->Cl1 S E F j
theorem ucb{S:Sp}{n i x:Nat}{r:SR}{E:List Bool}{F:List Nat}{m:Nat}{b g:Bool}(h:TF S n E F)(A:0<i)(t:S.rs[i]?=some r)(u:r.l=(x:Int))(c:x<n)(d:b=false->uak S E F i/\zE E+zbs F<=m)(p:b=true->zE E+zbs F+1<=m)(f:g=false->wd F x ||| (ofW E F r.r).1=wd F x/\((ofW E F r.r).2=true->isF E x=true))(q:g=true->wd F x ||| (ofW E F r.r).1≠wd F x\/((ofW E F r.r).2=true/\isF E x=false)):
  TF S n (yp E x (ofW E F r.r).2) (xr F x (ofW E F r.r).1)/\((b || g)=false->uak S (yp E x (ofW E F r.r).2) (xr F x (ofW E F r.r).1) (i+1)/\zE (yp E x (ofW E F r.r).2)+zbs (xr F x (ofW E F r.r).1)<=m)/\((b || g)=true->zE (yp E x (ofW E F r.r).2)+zbs (xr F x (ofW E F r.r).1)+1<=m):=by
 refine⟨h.add A t u c,fun a=>?_,fun a=>?_⟩
 ·rw[Bool.or_eq_false_iff]at a
  obtain⟨v,y,z⟩:=h.same t u c (f a.2).1 (f a.2).2
  rw[v,y]
  refine⟨fun j s B=>?_,(d a.1).2⟩
  rcases Nat.lt_or_ge j i with k | k
  ·exact(d a.1).1 j s k
  ·have:j=i:=by omega
   subst this
   exact z
 ·cases o:b
  ·rw[o]at a
   have k:=h.less c (q (by simpa using a))
   have:=(d o).2
   omega
  ·have k:=h.le (r:=r) c
   have:=p o
   omega
def RN2 (w W:World) (h:SHd) (S:Sp) (b1 rb:Nat) (p:RP8) (n:Nat) (E:List Bool) (F G:List Nat):Prop:=NW w W h S b1 rb p n E F G/\TG S n G
def uaw (S:Sp) (E:List Bool) (F G:List Nat) (i:Nat):Prop:=∀(j k:Nat) (r:SR),0<j->j<i->S.rs[j]?=some r->k<r.r.length->Cl2 S E F G j k
def K2 (S:Sp) (E:List Bool) (F G:List Nat) (i k m:Nat) (b:Bool):Prop:=(b=false->uaw S E F G i/\(∀k',k'<k->Cl2 S E F G i k')/\zbs G<=m)/\(b=true->zbs G+1<=m)
theorem K2.same{S:Sp}{E:List Bool}{F G:List Nat}{i k m:Nat}{b:Bool}(h:K2 S E F G i k m b)(c:Cl2 S E F G i k):K2 S E F G i (k+1) m b:=by
 refine⟨fun e=>⟨(h.1 e).1,fun a d=>?_,(h.1 e).2.2⟩,h.2⟩
 rcases Nat.lt_or_ge a k with h1 | h1
 ·exact(h.1 e).2.1 a h1
 ·have:a=k:=by omega
  subst this
  exact c
theorem K2.more{S:Sp}{E:List Bool}{F G a:List Nat}{i k m:Nat}{b:Bool}(h:K2 S E F G i k m b)(c:zbs a<zbs G):K2 S E F a i (k+1) m true:=by
 refine⟨fun e=>(by cases e),fun _=>?_⟩
 cases b
 ·have:=(h.1 rfl).2.2;omega
 ·have:=h.2 rfl;omega
theorem K2.done{S:Sp}{E:List Bool}{F G:List Nat}{i k m:Nat}{b:Bool}{r:SR}(h:K2 S E F G i k m b)(g:S.rs[i]?=some r)(n:r.r.length<=k):(b=false->uaw S E F G (i+1)/\zbs G<=m)/\(b=true->zbs G+1<=m):=by
 refine⟨fun e=>⟨fun j d q f l c a=>?_,(h.1 e).2.2⟩,h.2⟩
 rcases Nat.lt_or_ge j i with h2 | h2
 ·exact(h.1 e).1 j d q f h2 c a
 ·have:j=i:=by omega
  subst this
  rw[g]at c
  cases c
  exact(h.1 e).2.1 d (by omega)
theorem uci{w:World}{b o j m:Nat}{l:List Nat}(h:l.length<=j)(a:m=0):Row w 1 (some ⟨b,o,none⟩) m 0 (natC (l.drop j)):=by
 rw[List.drop_eq_nil_of_le h,a]
 exact⟨rfl,Nat.le_refl _,Nat.zero_le _,.inr ⟨b,o,rfl,fun j u c=>by cases c⟩⟩
theorem ubs(w:World)(h:SHd)(S:Sp)(n:Nat)(hs:NSp S n)(o5:S.tk<64)(h8:IsSp w h S):
  Calls Tryz.prog 35 #[sv h S] w fun e O=>∃A s p E F G,e=.returned (.pointer (some ⟨s,0,none⟩))/\NW w O h S A s p n E F G/\Told8 S n E F G:=by
 have HX:Hid (NSp S n/\IsSp w h S/\S.tk<64):=⟨hs,h8,o5⟩
 have p0:=hs.wf.tk
 have hn:n<=301:=by have:=hs.nn;have:=hs.wf.nt;omega
 have m7:S.rs.length<=40:=hs.nr
 have h6:1<=S.rs.length:=by have:=(List.getElem?_eq_some_iff.1 hs.wf.hd).1;omega
 have k1:Below w.heap.size w (w.alloc (.cells (sC h S) 31)):=qb _ _
 have g4:(w.alloc (.cells (sC h S) 31)).heap[w.heap.size]?=some (.cells (sC h S) 31 (0,0)):=heap_alloc_new _ _
 obtain⟨o0,ro,-,-,b3,-⟩:=h8.rl.at hs.wf.hd
 have f3:Hid (h.ra=some ⟨o0,ro,none⟩):=b3
 have m6:=j6 h8.rl
 have l2:Hid ((n:Int)=(S.tk:Int)+1+(S.nt:Int)):=by have:=hs.nn;show _=_;omega
 have i5:S.tk<n:=by have:=hs.nn;omega
 have k5:S.st<n:=by have:=hs.wf.st.2;have:=hs.nn;omega
 have o9:=hs.wf.nt
 clear hs h8
 unfold sv sC
 rw[b3]
 clear b3
 obtain⟨Y,a4⟩:∃Y,Hid (S.rs.length=Y):=⟨_,rfl⟩
 rw[a4.out]at m7 h6 m6 ⊢
 go_enter Tryz.func35,Tryz.ntmps35
 go_upto_region 1 with fail
 have e0:w.alloc (.cells #[.int .i64 (S.tk:Int),.int .i64 (S.nt:Int),.int .i64 (S.st:Int),.int .i64 S.ex,.slice h.na S.nm.length h.nc,.slice h.la S.lv.length h.lc,.slice h.aa S.az.length h.ac,.slice (some ⟨o0,ro,none⟩) Y h.rc] 31)=w.alloc (.cells (sC h S) 31):=by unfold sC;rw[f3.out,a4.out]
 rw[e0]
 generalize w.alloc (.cells (sC h S) 31)=W0 at k1 g4 ⊢
 obtain⟨A,l0⟩:∃A,Hid (A=w.heap.size):=⟨_,rfl⟩
 rw[<-l0.out]at g4 ⊢
 obtain⟨c0,c1,c2,c3,c4,c5,c6,c7⟩:=sbox g4
 clear e0
 have H0:Hid (Below w.heap.size w W0/\W0.heap[A]?=some (.cells (sC h S) 31 (0,0))):=⟨k1,g4⟩
 clear k1 g4
 go_upto_region 2 with fail
 rw[<-l2.out]
 have o7:=ub8 n (by omega)
 have o8:=ub9 n (by omega)
 have mx:=qay
 go_cut [4] (fun s4 wd=>∃s C B D:Nat,s4=.pointer (some ⟨s,0,none⟩)/\Hid (NW w wd h S A s ⟨C,B,D⟩ n (List.replicate n false) (List.replicate n 0) (List.replicate n 0)))
 case first =>
  have a0:Hid (∀V,Below W0.heap.size W0 V->V.cell? ⟨A,0,none⟩=some (.int .i64 (S.tk:Int))/\V.cell? ⟨A,1,none⟩=some (.int .i64 (S.nt:Int))/\V.cell? ⟨A,2,none⟩=some (.int .i64 (S.st:Int))/\V.cell? ⟨A,3,none⟩=some (.int .i64 S.ex)/\V.cell? ⟨A,4,none⟩=some (.slice h.na S.nm.length h.nc)/\V.cell? ⟨A,5,none⟩=some (.slice h.la S.lv.length h.lc)/\V.cell? ⟨A,6,none⟩=some (.slice h.aa S.az.length h.ac)/\V.cell? ⟨A,7,none⟩=some (.slice h.ra S.rs.length h.rc)):=fun V hV=>sbox (qf hV H0.out.2)
  obtain⟨x1,x2,x3,x4,x5⟩:=ucw (by omega:n<=1000) H0.out.1
  have g7:=uap (S:=S) (h:=h) (qd H0.out.1 x1) (qf x1 H0.out.2) x2 x3 x4 (by omega)
  have g8:=uap (S:=S) (h:=h) (qd H0.out.1 x1) (qf x1 H0.out.2) x2 x4 x3 (by omega)
  rw[x5]at g7 g8
  have g7:Hid _:=g7.step (qk _)
  have g8:Hid _:=g8.step (qk _)
  clear x1 x2 x3 x4 x5
  obtain⟨x1,x2,x3,x4,x5⟩:=ucx (by omega:n<=1000) H0.out.1
  have g9:=uap (S:=S) (h:=h) (qd H0.out.1 x1) (qf x1 H0.out.2) x2 x3 x4 (by omega)
  have h2:=uap (S:=S) (h:=h) (qd H0.out.1 x1) (qf x1 H0.out.2) x2 x4 x3 (by omega)
  rw[x5]at g9 h2
  have g9:Hid _:=g9.step (qk _)
  have h2:Hid _:=h2.step (qk _)
  clear x1 x2 x3 x4 x5
  obtain⟨x1,x2,x3,x4,x5⟩:=ucy (by omega:n<=1000) H0.out.1
  have h3:=uap (S:=S) (h:=h) (qd H0.out.1 x1) (qf x1 H0.out.2) x2 x3 x4 (by omega)
  have h4:=uap (S:=S) (h:=h) (qd H0.out.1 x1) (qf x1 H0.out.2) x2 x4 x3 (by omega)
  rw[x5]at h3 h4
  have h3:Hid _:=h3.step (qk _)
  have h4:Hid _:=h4.step (qk _)
  clear x1 x2 x3 x4 x5
  go_region_held (fun O=>O.cell? ⟨A,0,none⟩=some (.int .i64 (S.tk:Int))/\O.cell? ⟨A,1,none⟩=some (.int .i64 (S.nt:Int))/\O.cell? ⟨A,2,none⟩=some (.int .i64 (S.st:Int))/\O.cell? ⟨A,3,none⟩=some (.int .i64 S.ex)/\O.cell? ⟨A,4,none⟩=some (.slice h.na S.nm.length h.nc)/\O.cell? ⟨A,5,none⟩=some (.slice h.la S.lv.length h.lc)/\O.cell? ⟨A,6,none⟩=some (.slice h.aa S.az.length h.ac)/\O.cell? ⟨A,7,none⟩=some (.slice h.ra S.rs.length h.rc)) (first | exact a0.out _ (qk _) | exact a0.out _ (qd (qb _ _) (qk _)) | exact a0.out _ (qd (qd (qb _ _) (qb _ _)) (qk _)) | exact a0.out _ (qd (qd (qd (qb _ _) (qb _ _)) (qb _ _)) (qk _)) | exact a0.out _ (qd (qd (qd (qd (qb _ _) (qb _ _)) (qb _ _)) (qb _ _)) (qk _))) (fail)
  all_goals
   go_wp2_with fail
   go_meet
   first
    | exact⟨_,_,_,_,rfl,g7⟩
    | exact⟨_,_,_,_,rfl,g8⟩
    | exact⟨_,_,_,_,rfl,g9⟩
    | exact⟨_,_,_,_,rfl,h2⟩
    | exact⟨_,_,_,_,rfl,h3⟩
    | exact⟨_,_,_,_,rfl,h4⟩
 case rest =>
  obtain⟨s,C,B,D,rfl,H1⟩:=hcut
  obtain⟨w1,q4⟩:∃w1,w1=wc:=⟨_,rfl⟩
  subst wc
  clear c0 c1 c2 c3 c4 c5 c6 c7 H0 o7 o8
  go_upto_block 0 with fail
  go_cut [5] (fun s5 wd=>Hid (RN1 w wd h S A s ⟨C,B,D⟩ n (List.replicate n false) (F0 n S.tk)))
  case first =>
   go_wp2_with fail
   go_loopg [5] S.tk (fun kx s5 wr=>∃k:Nat,s5=.int .i64 k/\k<=S.tk/\S.tk - k<=kx/\Hid (NW w wr h S A s ⟨C,B,D⟩ n (List.replicate n false) (F0 n k) (List.replicate n 0)))
   case atStart=>exact⟨0,rfl,Nat.zero_le _,by omega,by rw[ucn];exact H1⟩
   case round =>
    clear H1
    obtain⟨k,rfl,hk,hg,J⟩:=hrel
    obtain⟨c0,-⟩:=sbox J.out.bs
    by_cases d8:k<S.tk
    ·have a7:(k:Int)<(S.tk:Int):=by omega
     have m3:k<n:=by omega
     have p6:(k:Int)<(n:Int):=by omega
     obtain⟨-,a9,-⟩:=J.out.rt.cells
     obtain⟨-,n2,-⟩:=J.out.apart
     have f9:wr.frozen? ⟨B,k,none⟩=false:=J.out.rt.fst.frozenAt k
     obtain⟨u9,v9⟩:∃u,wr.cell? ⟨B,k,none⟩=some u:=⟨_,uac J.out.rt.fst m3⟩
     have HO:Hid (∀V,Calls Tryz.prog 55 #[.int .i64 (k:Int)] V fun e O=>e=.returned (.int .u64 ((2 ^ k:Nat):Int))/\O=V):=fun V=>uav V k (by have:=HX.out.2.2;omega)
     have HF:Hid (NW w (wr.drew.setCell ⟨B,k,none⟩ (.int .u64 ((2 ^ k:Nat):Int))) h S A s ⟨C,B,D⟩ n (List.replicate n false) (F0 n (k+1)) (List.replicate n 0)):=by
      have:=(J.out.step (qk wr)).setF k (2 ^ k)
      rw[uct m3]at this
      exact this
     generalize 2 ^ k=pw at HO HF
     clear J
     go_upto_region 6 with fail
     have r2:(wr.drew).cell? ⟨B,k,none⟩=some u9:=v9
     have q0:(wr.drew).frozen? ⟨B,k,none⟩=false:=f9
     have k0:wr.drew.cell? ⟨s,9,none⟩=some (.slice (some ⟨B,0,none⟩) n n):=a9
     refine wp_region_held_drew (S:=fun O=>O.cell? ⟨s,9,none⟩=some (.slice (some ⟨B,0,none⟩) n n)) (by kernel_rfl) k0 (fun d=>?_)
     refine wpAnyH_take (i:=0) (v:=.pointer (some ⟨s,0,none⟩)) rfl (by kernel_rfl) (by kernel_rfl) (by kernel_rfl) (fun _ _ _ h=>h) (Or.inl ⟨by rfl,fun H f=>?_⟩) d ?_
     ·(have m:=f;go_simp)
     simp only[Act.put]
     refine wpAnyH_take (i:=1) (v:=.pointer (some ⟨s,0,none⟩)) rfl (by kernel_rfl) (by kernel_rfl) (by kernel_rfl) (fun _ _ _ h=>h) (Or.inl ⟨by rfl,fun H f=>?_⟩) d ?_
     ·(have m:=f;go_simp)
     simp only[Act.put]
     refine wpAnyH_take (i:=2) (v:=.pointer (some ⟨s,9,none⟩)) rfl (by kernel_rfl) (by kernel_rfl) (by kernel_rfl) (fun _ _ _ h=>h) (Or.inl ⟨by rfl,fun H f=>?_⟩) d ?_
     ·(have m:=f;go_simp)
     simp only[Act.put]
     refine wpAnyH_take (i:=3) (v:=.slice (some ⟨B,0,none⟩) n n) rfl (by kernel_rfl) (by kernel_rfl) (by kernel_rfl) (fun _ _ _ h=>h) (Or.inl ⟨by rfl,fun H f=>?_⟩) d ?_
     ·(have m:=f;go_simp)
     simp only[Act.put]
     refine wpAnyH_take (i:=4) (v:=.int .i64 (k:Int)) rfl (by kernel_rfl) (by kernel_rfl) (by kernel_rfl) (fun _ _ _ h=>h) (Or.inl ⟨by rfl,fun H f=>?_⟩) d ?_
     ·(have m:=f;go_simp)
     simp only[Act.put]
     refine wpAnyH_take (i:=5) (v:=.int .i64 (k:Int)) rfl (by kernel_rfl) (by kernel_rfl) (by kernel_rfl) (fun _ _ _ h=>h) (Or.inl ⟨by rfl,fun H f=>?_⟩) d ?_
     ·(have m:=f;go_simp)
     simp only[Act.put]
     refine wpAnyH_ready (rs:=[6]) (by kernel_rfl) (by simp) ?_
     refine AllReadyH.cons rfl (fun K X=>?_) AllReadyH.nil
     refine qcz rfl 55 #[.int .i64 (k:Int)] (.int .u64 (pw:Int)) (by simp[Act.eval,go_sem]) (HO.out _) (X.out _ _ k0 (fun d=>?_))
     clear X K
     simp only[Act.put]
     refine wpAnyH_take (i:=7) (v:=.pointer (some ⟨B,k,none⟩)) rfl (by kernel_rfl) (by kernel_rfl) (by kernel_rfl) (fun _ _ _ h=>h) (Or.inl ⟨by rfl,fun H f=>?_⟩) d ?_
     ·(have m:=f;go_simp)
     simp only[Act.put]
     refine wpAnyH_ready (rs:=[8]) (by kernel_rfl) (by simp) ?_
     refine AllReadyH.cons rfl (fun K X=>?_) AllReadyH.nil
     go_simp
     refine X.out _ _ (qz k0 n2.symm) (fun d=>?_)
     clear X K d
     refine wpAnyH_done (by kernel_rfl) ?_ _
     go_wp2_with fail
     go_roundg (S.tk - (k+1))
     case measure=>omega
     case rel=>exact⟨k+1,by simp,by omega,Nat.le_refl _,HF⟩
    ·have a7:¬(k:Int)<(S.tk:Int):=by omega
     have HF:Hid (RN1 w wr h S A s ⟨C,B,D⟩ n (List.replicate n false) (F0 n S.tk)):=by
      have:k=S.tk:=by omega
      subst this
      exact⟨J.out,TF.begin i5 HX.out.2.2⟩
     clear J
     go_wp2_with fail
     go_meet
     exact HF
  case rest =>
   obtain⟨w2,q5⟩:∃w2,w2=wc:=⟨_,rfl⟩
   subst wc
   have H2:Hid (RN1 w w2 h S A s ⟨C,B,D⟩ n (List.replicate n false) (F0 n S.tk)):=hcut
   clear hcut H1
   obtain⟨M,HM⟩:∃M,Hid (zE (List.replicate n false)+zbs (F0 n S.tk)+1=M):=⟨_,rfl⟩
   go_upto_block 2 with fail
   go_cut [6] (fun s6 wd=>Hid (∃E F,RN1 w wd h S A s ⟨C,B,D⟩ n E F/\uak S E F Y))
   case first =>
    go_wp2_with fail
    go_loopg [6] M (fun kx s6 wr=>∃b:Bool,s6=.bool b/\Hid (∃E F,RN1 w wr h S A s ⟨C,B,D⟩ n E F/\(b=false->uak S E F Y)/\(b=true->zE E+zbs F+1<=kx)))
    case atStart=>exact⟨true,rfl,(⟨_,_,H2.out,(fun e=>by cases e),fun _=>Nat.le_of_eq HM.out⟩:∃E F,RN1 w w2 h S A s ⟨C,B,D⟩ n E F/\(true=false->uak S E F Y)/\(true=true->zE E+zbs F+1<=M))⟩
    case round =>
     clear H2
     obtain⟨b,rfl,J⟩:=hrel
     obtain⟨E0,F1,y0,c8,d6⟩:=J.out
     cases b
     ·have HF:Hid (∃E F,RN1 w wr h S A s ⟨C,B,D⟩ n E F/\uak S E F Y):=⟨E0,F1,y0,c8 rfl⟩
      clear y0 c8 d6 J
      go_wp2_with fail
      go_meet
      exact HF
     ·obtain⟨R,a0⟩:∃R,Hid (zE E0+zbs F1=R):=⟨_,rfl⟩
      have l6:R+1<=gk:=by rw[<-a0.out];exact d6 rfl
      have g2:Hid (RN1 w wr h S A s ⟨C,B,D⟩ n E0 F1):=y0
      clear y0 c8 d6 J
      obtain⟨wo,p1⟩:∃wo,wo=wr:=⟨_,rfl⟩
      subst wr
      go_wp2_with fail
      go_loopg [6,7] Y (fun kx s6 s7 wr=>∃(b:Bool) (i:Nat),s6=.bool b/\s7=.int .i64 i/\1<=i/\i<=Y/\Y - i<=kx/\Hid (∃E F,RN1 w wr h S A s ⟨C,B,D⟩ n E F/\(b=false->uak S E F i/\zE E+zbs F<=R)/\(b=true->zE E+zbs F+1<=R)))
      case atStart=>exact⟨false,1,rfl,rfl,Nat.le_refl _,h6,by omega,(⟨E0,F1,g2.out,fun _=>⟨fun j h0 h1=>by omega,by rw[a0.out];exact Nat.le_refl _⟩,(fun e=>by cases e)⟩:∃E F,RN1 w wo h S A s ⟨C,B,D⟩ n E F/\(false=false->uak S E F 1/\zE E+zbs F<=R)/\(false=true->zE E+zbs F+1<=R))⟩
      case round =>
       clear g2
       obtain⟨b,i,rfl,rfl,m2,hi,m0,J⟩:=hrel
       obtain⟨E,F,y,a5,b2⟩:=J.out
       obtain⟨-,-,-,-,-,-,-,c7⟩:=sbox y.1.bs
       rw[f3.out,a4.out]at c7
       by_cases d8:i<Y
       ·have a7:(i:Int)<(Y:Int):=by omega
        obtain⟨r,hr⟩:∃r,S.rs[i]?=some r:=⟨S.rs[i]'(by rw[a4.out];exact d8),List.getElem?_eq_getElem _⟩
        obtain⟨p4,p5,xa,L,b3,d0,d1,d2,d3,f0⟩:=HX.out.2.1.rl.at hr
        rw[f3.out]at b3
        cases b3
        have d0:=qj y.1.bel d0
        have d1:=qj y.1.bel d1
        have d2:=qj y.1.bel d2
        have d3:=qj y.1.bel d3
        have h9:=ze f0
        have h7:r.r.length<=20:=HX.out.1.ln r (List.mem_of_getElem? hr)
        obtain⟨I,g5,n0,d5⟩:=HX.out.1.wf.rl i r (by omega) hr
        rw[<-HX.out.1.nn]at d5
        have hv:Below wr.heap.size wr (wr.alloc (.cells #[.int .i64 r.l,.slice xa r.r.length L,.int .i64 r.lv,.int .i64 r.a] 47)):=qb _ _
        have HV:Hid (RN1 w (wr.alloc (.cells #[.int .i64 r.l,.slice xa r.r.length L,.int .i64 r.lv,.int .i64 r.a] 47)) h S A s ⟨C,B,D⟩ n E F/\(wr.alloc (.cells #[.int .i64 r.l,.slice xa r.r.length L,.int .i64 r.lv,.int .i64 r.a] 47)).heap[wr.heap.size]?=some (.cells #[.int .i64 r.l,.slice xa r.r.length L,.int .i64 r.lv,.int .i64 r.a] 47 (0,0))):=⟨⟨y.1.step hv,y.2⟩,heap_alloc_new _ _⟩
        have HR:Hid (S.rs[i]?=some r/\Row w 1 xa r.r.length L (natC r.r)/\r.l=(I:Int)):=⟨hr,f0,g5⟩
        have HB:Hid ((b=false->uak S E F i/\zE E+zbs F<=R)/\(b=true->zE E+zbs F+1<=R)):=⟨a5,b2⟩
        clear y a5 b2 J hr f0 hv g5
        obtain⟨N,Z⟩:∃N,Hid (r.r.length=N):=⟨_,rfl⟩
        rw[Z.out]at d1 h7 h9 HV
        go_upto_region 14 with fail
        obtain⟨Q,f7⟩:∃Q,Hid (Q=wr.heap.size):=⟨_,rfl⟩
        rw[<-f7.out]at HV ⊢
        generalize wr.alloc (.cells #[.int .i64 r.l,.slice xa N L,.int .i64 r.lv,.int .i64 r.a] 47)=V at HV ⊢
        clear f7 d0 d1 d2 d3 c7
        have e1:V.cell? ⟨Q,1,none⟩=some (.slice xa N L):=by rw[qe HV.out.2];rfl
        have b6:Hid (Calls Tryz.prog 56 #[.pointer (some ⟨s,0,none⟩),.slice xa N L] V fun e O=>e=.returned (.tuple #[.int .u64 ((ofW E F r.r).1:Int),.bool (ofW E F r.r).2])/\Below V.heap.size V O):=uam V w.heap.size s ⟨C,B,D⟩ h S n E F _ HV.out.1.1.rt HV.out.1.2.lt r.r xa N L Z.out (by omega) (by have q:=HR.out.2.1.below HV.out.1.1.bel;rw[Z.out]at q;exact q) (fun z hz=>(HX.out.1.sy r (List.mem_of_getElem? HR.out.1) z hz).1)
        have b4:=uau (yr E HV.out.1.2.lt r.r)
        go_wp2_with fail
        refine b6.out.mono ?_
        rintro e V2 ⟨rfl,T⟩
        clear e1 b6
        obtain⟨v,b9⟩:∃v,Hid ((ofW E F r.r).1=v):=⟨_,rfl⟩
        obtain⟨bb,b0⟩:∃bb,Hid ((ofW E F r.r).2=bb):=⟨_,rfl⟩
        rw[b9.out]at b4 ⊢
        rw[b0.out]
        have d7:=qf T HV.out.2
        have b8:Hid (RN1 w V2 h S A s ⟨C,B,D⟩ n E F/\V2.heap[Q]?=some (.cells #[.int .i64 r.l,.slice xa N L,.int .i64 r.lv,.int .i64 r.a] 47 (0,0))):=⟨⟨HV.out.1.1.step T,HV.out.1.2⟩,d7⟩
        clear HV T d7
        obtain⟨a,P⟩:∃a,Hid (wd F I=a):=⟨_,rfl⟩
        obtain⟨ov,U⟩:∃ov,Hid (a ||| v=ov):=⟨_,rfl⟩
        obtain⟨ee,f1⟩:∃ee,Hid (isF E I=ee):=⟨_,rfl⟩
        have f5:a<18446744073709551616:=by rw[<-P.out];exact uau (uaa b8.out.1.2.lt I)
        have k4:=bits_or_u64_nat a v f5 b4
        rw[U.out]at k4
        have i2:ov<18446744073709551616:=by rw[<-U.out];exact uaq f5 b4
        have m9:(I:Int)<(n:Int):=by omega
        have HC:Hid (∀W,Below V2.heap.size V2 W->W.cell? ⟨s,8,none⟩=some (.slice (some ⟨C,0,none⟩) n n)/\W.cell? ⟨s,9,none⟩=some (.slice (some ⟨B,0,none⟩) n n)/\W.cell? ⟨Q,0,none⟩=some (.int .i64 (I:Int))/\W.cell? ⟨B,I,none⟩=some (.int .u64 (a:Int))/\W.cell? ⟨C,I,none⟩=some (.bool ee)):=fun W hW=>by
         have z:=b8.out.1.1.step hW
         obtain⟨L2,L1,-⟩:=z.rt.cells
         have z4:=uac z.rt.fst d5
         have z5:=qrm z.rt.emp d5
         rw[P.out]at z4
         rw[f1.out]at z5
         exact⟨L2,L1,by rw[qe (qf hW b8.out.2),HR.out.2.2];rfl,z4,z5⟩
        go_upto_region 15 with fail
        obtain⟨a8,a9,e7,e9,e8⟩:=HC.out V2 (Below.refl _ _)
        have g1:Hid (∀q,Below V2.heap.size V2 (V2.drewN q)):=fun q=>yh (Below.refl _ _) q
        go_cut [99] from 48 to 128 (fun s99 wd=>∃c:Bool,s99=.bool c/\Hid (Below V2.heap.size V2 wd/\(c=false->ov=a/\(bb=true->ee=true))/\(c=true->ov≠a\/(bb=true/\ee=false))))
        case first =>
         as_aux_lemma =>
          clear HX Z HR HB b8 HC b9 b0 P U f1 f3 a4 a0 HM l2 l0 hn m7 h6 m6 i5 k5 o9 p0 m2 hi m0 l6 h7 h9 n0 d8 a7 f5 b4 i2
          by_cases d9:ov=a
          ·subst d9
           cases bb
           ·
            go_quiet (fail)
            go_wp2_with fail
            go_meet
            exact⟨false,rfl,g1.out _,by simp,by simp⟩
           ·go_quiet (fail)
            go_wp2_with fail
            go_meet
            exact⟨!ee,rfl,g1.out _,by simp,by simp⟩
          ·have o2:Hid (ov≠a):=d9
           have l9:((ov:Int) != (a:Int))=true:=by rw[bne_iff_ne];omega
           clear d9
           go_quiet (fail)
           go_wp2_with fail
           go_meet
           exact⟨true,rfl,g1.out _,(fun e=>by cases e),fun _=>.inl o2.out⟩
        case rest =>
         obtain⟨c,rfl,g0⟩:=hcut
         obtain⟨w4,r0⟩:∃w4,w4=wc:=⟨_,rfl⟩
         subst wc
         clear a8 a9 e7 e9 e8
         go_upto_if 99 with fail
         go_cut [6] from 48 to 128 (fun s6 wd=>s6=.bool (b || c)/\Hid (wd=w4))
         case first =>
          cases c
          ·go_wp2_with fail
           go_meet
           exact⟨by simp,rfl⟩
          ·go_wp2_with fail
           go_meet
           exact⟨by simp,rfl⟩
         case rest =>
          obtain⟨rfl,k7⟩:=hcut
          have k7:=k7.out
          subst k7
          obtain⟨bc,l1⟩:∃bc,Hid ((b || c)=bc):=⟨_,rfl⟩
          rw[l1.out]
          obtain⟨q8,L4,q7,p9,p8⟩:=HC.out _ (qd g0.out.1 (qk wc))
          have f4:Hid (NW w wc.drew h S A s ⟨C,B,D⟩ n E F (List.replicate n 0)):=(b8.out.1.1.step g0.out.1).step (qk wc)
          have o4:wc.drew.frozen? ⟨B,I,none⟩=false:=f4.out.rt.fst.frozenAt I
          obtain⟨n1,n2,-⟩:=f4.out.apart
          have l7:wc.drew.heap[Q]?=some (.cells #[.int .i64 r.l,.slice xa N L,.int .i64 r.lv,.int .i64 r.a] 47 (0,0)):=qf (qd g0.out.1 (qk wc)) b8.out.2
          have n7:B≠Q:=qr (qw f4.out.rt.fst (b:=B) rfl).2.2 ⟨_,l7⟩ (by decide)
          have n8:C≠Q:=qr (qw f4.out.rt.emp (b:=C) rfl).2.2 ⟨_,l7⟩ (by decide)
          have r9:=qz (u:=.int .u64 (ov:Int)) (p:=⟨B,I,none⟩) L4 n2.symm
          have r8:=qz (u:=.int .u64 (ov:Int)) (p:=⟨B,I,none⟩) q8 n2.symm
          have r7:=qz (u:=.int .u64 (ov:Int)) (p:=⟨B,I,none⟩) q7 n7.symm
          go_upto_region 17 with fail
          refine wp_region_held_drew (S:=fun O=>O.cell? ⟨s,9,none⟩=some (.slice (some ⟨B,0,none⟩) n n)/\O.cell? ⟨Q,0,none⟩=some (.int .i64 (I:Int))) (by kernel_rfl) ⟨L4,q7⟩ (fun d=>?_)
          refine wpAnyH_take (i:=0) (v:=.pointer (some ⟨s,0,none⟩)) rfl (by kernel_rfl) (by kernel_rfl) (by kernel_rfl) (fun _ _ _ h=>h) (Or.inl ⟨by rfl,fun H f=>?_⟩) d ?_
          ·(obtain⟨m,o⟩:=f;go_simp)
          simp only[Act.put]
          refine wpAnyH_take (i:=1) (v:=.pointer (some ⟨s,0,none⟩)) rfl (by kernel_rfl) (by kernel_rfl) (by kernel_rfl) (fun _ _ _ h=>h) (Or.inl ⟨by rfl,fun H f=>?_⟩) d ?_
          ·(obtain⟨m,o⟩:=f;go_simp)
          simp only[Act.put]
          refine wpAnyH_take (i:=2) (v:=.pointer (some ⟨s,9,none⟩)) rfl (by kernel_rfl) (by kernel_rfl) (by kernel_rfl) (fun _ _ _ h=>h) (Or.inl ⟨by rfl,fun H f=>?_⟩) d ?_
          ·(obtain⟨m,o⟩:=f;go_simp)
          simp only[Act.put]
          refine wpAnyH_take (i:=3) (v:=.slice (some ⟨B,0,none⟩) n n) rfl (by kernel_rfl) (by kernel_rfl) (by kernel_rfl) (fun _ _ _ h=>h) (Or.inl ⟨by rfl,fun H f=>?_⟩) d ?_
          ·(obtain⟨m,o⟩:=f;go_simp)
          simp only[Act.put]
          refine wpAnyH_take (i:=4) (v:=.pointer (some ⟨Q,0,none⟩)) rfl (by kernel_rfl) (by kernel_rfl) (by kernel_rfl) (fun _ _ _ h=>h) (Or.inl ⟨by rfl,fun H f=>?_⟩) d ?_
          ·(obtain⟨m,o⟩:=f;go_simp)
          simp only[Act.put]
          refine wpAnyH_take (i:=5) (v:=.int .i64 (I:Int)) rfl (by kernel_rfl) (by kernel_rfl) (by kernel_rfl) (fun _ _ _ h=>h) (Or.inl ⟨by rfl,fun H f=>?_⟩) d ?_
          ·(obtain⟨m,o⟩:=f;go_simp)
          simp only[Act.put]
          refine wpAnyH_take (i:=6) (v:=.pointer (some ⟨B,I,none⟩)) rfl (by kernel_rfl) (by kernel_rfl) (by kernel_rfl) (fun _ _ _ h=>h) (Or.inl ⟨by rfl,fun H f=>?_⟩) d ?_
          ·(obtain⟨m,o⟩:=f;go_simp)
          simp only[Act.put]
          refine wpAnyH_take (i:=8) (v:=.int .u64 (v:Int)) rfl (by kernel_rfl) (by kernel_rfl) (by kernel_rfl) (fun _ _ _ h=>h) (Or.inl ⟨by rfl,fun H f=>?_⟩) d ?_
          ·(obtain⟨m,o⟩:=f;go_simp)
          simp only[Act.put]
          refine wpAnyH_ready (rs:=[7]) (by kernel_rfl) (by simp) ?_
          refine AllReadyH.cons rfl (fun K X=>?_) AllReadyH.nil
          go_simp
          refine X.out _ _ ⟨L4,q7⟩ (fun d=>?_)
          clear X K
          refine wpAnyH_take (i:=9) (v:=.int .u64 (ov:Int)) rfl (by kernel_rfl) (by kernel_rfl) (by kernel_rfl) (fun _ _ _ h=>h) (Or.inl ⟨by rfl,fun H f=>?_⟩) d ?_
          ·(obtain⟨m,o⟩:=f;go_simp)
          simp only[Act.put]
          refine wpAnyH_take (i:=10) (v:=.pointer (some ⟨B,I,none⟩)) rfl (by kernel_rfl) (by kernel_rfl) (by kernel_rfl) (fun _ _ _ h=>h) (Or.inl ⟨by rfl,fun H f=>?_⟩) d ?_
          ·(obtain⟨m,o⟩:=f;go_simp)
          simp only[Act.put]
          refine wpAnyH_ready (rs:=[11]) (by kernel_rfl) (by simp) ?_
          refine AllReadyH.cons rfl (fun K X=>?_) AllReadyH.nil
          go_simp
          refine X.out _ _ ⟨r9,r7⟩ (fun d=>?_)
          clear X K d
          refine wpAnyH_done (by kernel_rfl) ?_ _
          clear r9 r8 r7 q8 L4 q7 p9 p8 o4
          obtain⟨W5,i8⟩:∃W5,Hid ((wc.setCell ⟨B,I,none⟩ (.int .u64 (ov:Int))).drew=W5):=⟨_,rfl⟩
          rw[i8.out]
          have g3:Hid (NW w W5.drew h S A s ⟨C,B,D⟩ n E (xr F I v) (List.replicate n 0)/\W5.drew.heap[Q]?=some (.cells #[.int .i64 r.l,.slice xa N L,.int .i64 r.lv,.int .i64 r.a] 47 (0,0))):=by
           have z:=f4.out.setF I ov
           rw[<-U.out,<-P.out]at z
           have z2:wc.drew.setCell ⟨B,I,none⟩ (.int .u64 ((wd F I ||| v:Nat):Int))=W5:=by rw[P.out,U.out];exact i8.out
           rw[z2]at z
           refine⟨z.step (qk W5),?_⟩
           show W5.heap[Q]?=_
           rw[<-i8.out]
           show(wc.setCell ⟨B,I,none⟩ (.int .u64 (ov:Int))).heap[Q]?=_
           rw[Below.heap_setCell _ _ _ _ n7.symm]
           exact l7
          obtain⟨t8,-,-⟩:=g3.out.1.rt.cells
          have t7:W5.drew.cell? ⟨Q,0,none⟩=some (.int .i64 (I:Int)):=by rw[qe g3.out.2,HR.out.2.2];rfl
          have te:=qrm g3.out.1.rt.emp d5
          have q1:W5.drew.frozen? ⟨C,I,none⟩=false:=g3.out.1.rt.emp.frozenAt I
          rw[f1.out]at te
          have u8:=qz (u:=.bool (ee || bb)) (p:=⟨C,I,none⟩) t8 n1.symm
          have u7:=qz (u:=.bool (ee || bb)) (p:=⟨C,I,none⟩) t7 n8.symm
          have HF:Hid (∃E F,RN1 w (W5.drew.setCell ⟨C,I,none⟩ (.bool (ee || bb))) h S A s ⟨C,B,D⟩ n E F/\(bc=false->uak S E F (i+1)/\zE E+zbs F<=R)/\(bc=true->zE E+zbs F+1<=R)):=by
           have z:=g3.out.1.setE I (ee || bb)
           rw[<-f1.out,<-b0.out,<-b9.out]at z
           rw[<-f1.out,<-b0.out,<-l1.out]
           have k2:=g0.out.2
           rw[<-U.out,<-P.out,<-b9.out,<-b0.out,<-f1.out]at k2
           obtain⟨z1,z2,z3⟩:=ucb b8.out.1.2 (by omega) HR.out.1 HR.out.2.2 d5 HB.out.1 HB.out.2 k2.1 k2.2
           exact⟨_,_,⟨z,z1⟩,z2,z3⟩
          clear g0 f4 b8 HC HB HX i2 f5 b4 n1 n2 n7 n8 l7
          cases ee
          ·rw[Bool.false_or]at u8 u7 HF
           go_upto_region 18 with fail
           refine wp_region_held_drew (S:=fun O=>O.cell? ⟨s,8,none⟩=some (.slice (some ⟨C,0,none⟩) n n)/\O.cell? ⟨Q,0,none⟩=some (.int .i64 (I:Int))) (by kernel_rfl) ⟨t8,t7⟩ (fun d=>?_)
           refine wpAnyH_take (i:=0) (v:=.pointer (some ⟨s,0,none⟩)) rfl (by kernel_rfl) (by kernel_rfl) (by kernel_rfl) (fun _ _ _ h=>h) (Or.inl ⟨by rfl,fun H f=>?_⟩) d ?_
           ·(obtain⟨m,o⟩:=f;go_simp)
           simp only[Act.put]
           refine wpAnyH_take (i:=1) (v:=.pointer (some ⟨s,0,none⟩)) rfl (by kernel_rfl) (by kernel_rfl) (by kernel_rfl) (fun _ _ _ h=>h) (Or.inl ⟨by rfl,fun H f=>?_⟩) d ?_
           ·(obtain⟨m,o⟩:=f;go_simp)
           simp only[Act.put]
           refine wpAnyH_take (i:=2) (v:=.pointer (some ⟨s,8,none⟩)) rfl (by kernel_rfl) (by kernel_rfl) (by kernel_rfl) (fun _ _ _ h=>h) (Or.inl ⟨by rfl,fun H f=>?_⟩) d ?_
           ·(obtain⟨m,o⟩:=f;go_simp)
           simp only[Act.put]
           refine wpAnyH_take (i:=3) (v:=.slice (some ⟨C,0,none⟩) n n) rfl (by kernel_rfl) (by kernel_rfl) (by kernel_rfl) (fun _ _ _ h=>h) (Or.inl ⟨by rfl,fun H f=>?_⟩) d ?_
           ·(obtain⟨m,o⟩:=f;go_simp)
           simp only[Act.put]
           refine wpAnyH_take (i:=4) (v:=.pointer (some ⟨Q,0,none⟩)) rfl (by kernel_rfl) (by kernel_rfl) (by kernel_rfl) (fun _ _ _ h=>h) (Or.inl ⟨by rfl,fun H f=>?_⟩) d ?_
           ·(obtain⟨m,o⟩:=f;go_simp)
           simp only[Act.put]
           refine wpAnyH_take (i:=5) (v:=.int .i64 (I:Int)) rfl (by kernel_rfl) (by kernel_rfl) (by kernel_rfl) (fun _ _ _ h=>h) (Or.inl ⟨by rfl,fun H f=>?_⟩) d ?_
           ·(obtain⟨m,o⟩:=f;go_simp)
           simp only[Act.put]
           refine wpAnyH_take (i:=6) (v:=.pointer (some ⟨s,0,none⟩)) rfl (by kernel_rfl) (by kernel_rfl) (by kernel_rfl) (fun _ _ _ h=>h) (Or.inl ⟨by rfl,fun H f=>?_⟩) d ?_
           ·(obtain⟨m,o⟩:=f;go_simp)
           simp only[Act.put]
           refine wpAnyH_take (i:=7) (v:=.pointer (some ⟨s,0,none⟩)) rfl (by kernel_rfl) (by kernel_rfl) (by kernel_rfl) (fun _ _ _ h=>h) (Or.inl ⟨by rfl,fun H f=>?_⟩) d ?_
           ·(obtain⟨m,o⟩:=f;go_simp)
           simp only[Act.put]
           refine wpAnyH_take (i:=8) (v:=.pointer (some ⟨s,8,none⟩)) rfl (by kernel_rfl) (by kernel_rfl) (by kernel_rfl) (fun _ _ _ h=>h) (Or.inl ⟨by rfl,fun H f=>?_⟩) d ?_
           ·(obtain⟨m,o⟩:=f;go_simp)
           simp only[Act.put]
           refine wpAnyH_take (i:=9) (v:=.slice (some ⟨C,0,none⟩) n n) rfl (by kernel_rfl) (by kernel_rfl) (by kernel_rfl) (fun _ _ _ h=>h) (Or.inl ⟨by rfl,fun H f=>?_⟩) d ?_
           ·(obtain⟨m,o⟩:=f;go_simp)
           simp only[Act.put]
           refine wpAnyH_take (i:=10) (v:=.pointer (some ⟨Q,0,none⟩)) rfl (by kernel_rfl) (by kernel_rfl) (by kernel_rfl) (fun _ _ _ h=>h) (Or.inl ⟨by rfl,fun H f=>?_⟩) d ?_
           ·(obtain⟨m,o⟩:=f;go_simp)
           simp only[Act.put]
           refine wpAnyH_take (i:=11) (v:=.int .i64 (I:Int)) rfl (by kernel_rfl) (by kernel_rfl) (by kernel_rfl) (fun _ _ _ h=>h) (Or.inl ⟨by rfl,fun H f=>?_⟩) d ?_
           ·(obtain⟨m,o⟩:=f;go_simp)
           simp only[Act.put]
           refine wpAnyH_take (i:=12) (v:=.pointer (some ⟨C,I,none⟩)) rfl (by kernel_rfl) (by kernel_rfl) (by kernel_rfl) (fun _ _ _ h=>h) (Or.inl ⟨by rfl,fun H f=>?_⟩) d ?_
           ·(obtain⟨m,o⟩:=f;go_simp)
           simp only[Act.put]
           refine wpAnyH_ready (rs:=[13]) (by kernel_rfl) (by simp) ?_
           refine AllReadyH.cons rfl (fun K X=>?_) AllReadyH.nil
           go_simp
           refine X.out _ _ ⟨t8,t7⟩ (fun d=>?_)
           clear X K
           refine wpAnyH_take (i:=14) (v:=.bool false) rfl (by kernel_rfl) (by kernel_rfl) (by kernel_rfl) (fun _ _ _ h=>h) (Or.inl ⟨by rfl,fun H f=>?_⟩) d ?_
           ·(obtain⟨m,o⟩:=f;go_simp)
           simp only[Act.put]
           refine wpAnyH_take (i:=15) (v:=.bool bb) rfl (by kernel_rfl) (by kernel_rfl) (by kernel_rfl) (fun _ _ _ h=>h) (Or.inl ⟨by rfl,fun H f=>?_⟩) d ?_
           ·(obtain⟨m,o⟩:=f;go_simp)
           simp only[Act.put]
           refine wpAnyH_take (i:=16) (v:=.bool bb) rfl (by kernel_rfl) (by kernel_rfl) (by kernel_rfl) (fun _ _ _ h=>h) (Or.inl ⟨by rfl,fun H f=>?_⟩) d ?_
           ·(obtain⟨m,o⟩:=f;go_simp)
           simp only[Act.put]
           refine wpAnyH_take (i:=17) (v:=.pointer (some ⟨C,I,none⟩)) rfl (by kernel_rfl) (by kernel_rfl) (by kernel_rfl) (fun _ _ _ h=>h) (Or.inl ⟨by rfl,fun H f=>?_⟩) d ?_
           ·(obtain⟨m,o⟩:=f;go_simp)
           simp only[Act.put]
           refine wpAnyH_ready (rs:=[18]) (by kernel_rfl) (by simp) ?_
           refine AllReadyH.cons rfl (fun K X=>?_) AllReadyH.nil
           go_simp
           refine X.out _ _ ⟨u8,u7⟩ (fun d=>?_)
           clear X K d
           refine wpAnyH_done (by kernel_rfl) ?_ _
           go_wp2_with fail
           go_roundg (Y - (i+1))
           case measure=>omega
           case rel=>exact⟨bc,i+1,rfl,by simp,by omega,by omega,Nat.le_refl _,HF⟩
          ·rw[Bool.true_or]at u8 u7 HF
           go_upto_region 18 with fail
           refine wp_region_held_drew (S:=fun O=>O.cell? ⟨s,8,none⟩=some (.slice (some ⟨C,0,none⟩) n n)/\O.cell? ⟨Q,0,none⟩=some (.int .i64 (I:Int))) (by kernel_rfl) ⟨t8,t7⟩ (fun d=>?_)
           refine wpAnyH_take (i:=0) (v:=.pointer (some ⟨s,0,none⟩)) rfl (by kernel_rfl) (by kernel_rfl) (by kernel_rfl) (fun _ _ _ h=>h) (Or.inl ⟨by rfl,fun H f=>?_⟩) d ?_
           ·(obtain⟨m,o⟩:=f;go_simp)
           simp only[Act.put]
           refine wpAnyH_take (i:=1) (v:=.pointer (some ⟨s,0,none⟩)) rfl (by kernel_rfl) (by kernel_rfl) (by kernel_rfl) (fun _ _ _ h=>h) (Or.inl ⟨by rfl,fun H f=>?_⟩) d ?_
           ·(obtain⟨m,o⟩:=f;go_simp)
           simp only[Act.put]
           refine wpAnyH_take (i:=2) (v:=.pointer (some ⟨s,8,none⟩)) rfl (by kernel_rfl) (by kernel_rfl) (by kernel_rfl) (fun _ _ _ h=>h) (Or.inl ⟨by rfl,fun H f=>?_⟩) d ?_
           ·(obtain⟨m,o⟩:=f;go_simp)
           simp only[Act.put]
           refine wpAnyH_take (i:=3) (v:=.slice (some ⟨C,0,none⟩) n n) rfl (by kernel_rfl) (by kernel_rfl) (by kernel_rfl) (fun _ _ _ h=>h) (Or.inl ⟨by rfl,fun H f=>?_⟩) d ?_
           ·(obtain⟨m,o⟩:=f;go_simp)
           simp only[Act.put]
           refine wpAnyH_take (i:=4) (v:=.pointer (some ⟨Q,0,none⟩)) rfl (by kernel_rfl) (by kernel_rfl) (by kernel_rfl) (fun _ _ _ h=>h) (Or.inl ⟨by rfl,fun H f=>?_⟩) d ?_
           ·(obtain⟨m,o⟩:=f;go_simp)
           simp only[Act.put]
           refine wpAnyH_take (i:=5) (v:=.int .i64 (I:Int)) rfl (by kernel_rfl) (by kernel_rfl) (by kernel_rfl) (fun _ _ _ h=>h) (Or.inl ⟨by rfl,fun H f=>?_⟩) d ?_
           ·(obtain⟨m,o⟩:=f;go_simp)
           simp only[Act.put]
           refine wpAnyH_take (i:=6) (v:=.pointer (some ⟨s,0,none⟩)) rfl (by kernel_rfl) (by kernel_rfl) (by kernel_rfl) (fun _ _ _ h=>h) (Or.inl ⟨by rfl,fun H f=>?_⟩) d ?_
           ·(obtain⟨m,o⟩:=f;go_simp)
           simp only[Act.put]
           refine wpAnyH_take (i:=7) (v:=.pointer (some ⟨s,0,none⟩)) rfl (by kernel_rfl) (by kernel_rfl) (by kernel_rfl) (fun _ _ _ h=>h) (Or.inl ⟨by rfl,fun H f=>?_⟩) d ?_
           ·(obtain⟨m,o⟩:=f;go_simp)
           simp only[Act.put]
           refine wpAnyH_take (i:=8) (v:=.pointer (some ⟨s,8,none⟩)) rfl (by kernel_rfl) (by kernel_rfl) (by kernel_rfl) (fun _ _ _ h=>h) (Or.inl ⟨by rfl,fun H f=>?_⟩) d ?_
           ·(obtain⟨m,o⟩:=f;go_simp)
           simp only[Act.put]
           refine wpAnyH_take (i:=9) (v:=.slice (some ⟨C,0,none⟩) n n) rfl (by kernel_rfl) (by kernel_rfl) (by kernel_rfl) (fun _ _ _ h=>h) (Or.inl ⟨by rfl,fun H f=>?_⟩) d ?_
           ·(obtain⟨m,o⟩:=f;go_simp)
           simp only[Act.put]
           refine wpAnyH_take (i:=10) (v:=.pointer (some ⟨Q,0,none⟩)) rfl (by kernel_rfl) (by kernel_rfl) (by kernel_rfl) (fun _ _ _ h=>h) (Or.inl ⟨by rfl,fun H f=>?_⟩) d ?_
           ·(obtain⟨m,o⟩:=f;go_simp)
           simp only[Act.put]
           refine wpAnyH_take (i:=11) (v:=.int .i64 (I:Int)) rfl (by kernel_rfl) (by kernel_rfl) (by kernel_rfl) (fun _ _ _ h=>h) (Or.inl ⟨by rfl,fun H f=>?_⟩) d ?_
           ·(obtain⟨m,o⟩:=f;go_simp)
           simp only[Act.put]
           refine wpAnyH_take (i:=12) (v:=.pointer (some ⟨C,I,none⟩)) rfl (by kernel_rfl) (by kernel_rfl) (by kernel_rfl) (fun _ _ _ h=>h) (Or.inl ⟨by rfl,fun H f=>?_⟩) d ?_
           ·(obtain⟨m,o⟩:=f;go_simp)
           simp only[Act.put]
           refine wpAnyH_ready (rs:=[13]) (by kernel_rfl) (by simp) ?_
           refine AllReadyH.cons rfl (fun K X=>?_) AllReadyH.nil
           go_simp
           refine X.out _ _ ⟨t8,t7⟩ (fun d=>?_)
           clear X K
           refine wpAnyH_take (i:=14) (v:=.bool true) rfl (by kernel_rfl) (by kernel_rfl) (by kernel_rfl) (fun _ _ _ h=>h) (Or.inl ⟨by rfl,fun H f=>?_⟩) d ?_
           ·(obtain⟨m,o⟩:=f;go_simp)
           simp only[Act.put]
           refine wpAnyH_take (i:=15) (v:=undef) rfl (by kernel_rfl) (by kernel_rfl) (by kernel_rfl) (fun _ _ _ h=>h) (Or.inr ⟨by rfl,rfl⟩) d ?_
           simp only[Act.put]
           refine wpAnyH_take (i:=16) (v:=.bool true) rfl (by kernel_rfl) (by kernel_rfl) (by kernel_rfl) (fun _ _ _ h=>h) (Or.inl ⟨by rfl,fun H f=>?_⟩) d ?_
           ·(obtain⟨m,o⟩:=f;go_simp)
           simp only[Act.put]
           refine wpAnyH_take (i:=17) (v:=.pointer (some ⟨C,I,none⟩)) rfl (by kernel_rfl) (by kernel_rfl) (by kernel_rfl) (fun _ _ _ h=>h) (Or.inl ⟨by rfl,fun H f=>?_⟩) d ?_
           ·(obtain⟨m,o⟩:=f;go_simp)
           simp only[Act.put]
           refine wpAnyH_ready (rs:=[18]) (by kernel_rfl) (by simp) ?_
           refine AllReadyH.cons rfl (fun K X=>?_) AllReadyH.nil
           go_simp
           refine X.out _ _ ⟨u8,u7⟩ (fun d=>?_)
           clear X K d
           refine wpAnyH_done (by kernel_rfl) ?_ _
           go_wp2_with fail
           go_roundg (Y - (i+1))
           case measure=>omega
           case rel=>exact⟨bc,i+1,rfl,by simp,by omega,by omega,Nat.le_refl _,HF⟩
       ·have a7:¬(i:Int)<(Y:Int):=by omega
        have HF:Hid (∃E F,RN1 w wr h S A s ⟨C,B,D⟩ n E F/\(b=false->uak S E F Y)/\(b=true->zE E+zbs F+1<=R)):=by
         have:i=Y:=by omega
         subst this
         exact⟨E,F,y,fun e=>(a5 e).1,b2⟩
        clear y a5 b2 J
        go_wp2_with fail
        go_roundg R
        case measure=>omega
        case rel=>exact⟨b,rfl,HF⟩
   case rest =>
    obtain⟨w3,q6⟩:∃w3,w3=wc:=⟨_,rfl⟩
    subst wc
    clear H2 HM
    obtain⟨E,F,y3,l8⟩:=hcut.out
    have HT:Hid ((∀x,isF E x=true↔Nul S x)/\∀x t,tb F x t=true↔FstP S x t):=y3.2.done (fun j h0 h1=>l8 j h0 (by rw[<-a4.out];exact h1))
    have a2:Hid (TF S n E F):=y3.2
    have H3:Hid (NW w w3 h S A s ⟨C,B,D⟩ n E F (List.replicate n 0)):=y3.1
    clear hcut y3 l8
    obtain⟨c0,-,c2,-⟩:=sbox (H3.out.step (qk w3)).bs
    obtain⟨-,-,aa⟩:=(H3.out.step (qk w3)).rt.cells
    obtain⟨-,-,n3,-,-,n6⟩:=H3.out.apart
    have fa:w3.drew.frozen? ⟨D,S.st,none⟩=false:=(H3.out.step (qk w3)).rt.fol.frozenAt S.st
    obtain⟨ua,va⟩:∃u,w3.drew.cell? ⟨D,S.st,none⟩=some u:=⟨_,uac (H3.out.step (qk w3)).rt.fol k5⟩
    have m8:(S.st:Int)<(n:Int):=by omega
    have HO:Hid (∀V,Calls Tryz.prog 55 #[.int .i64 (S.tk:Int)] V fun e O=>e=.returned (.int .u64 ((2 ^ S.tk:Nat):Int))/\O=V):=fun V=>uav V S.tk HX.out.2.2
    have H4:Hid (∃G,NW w (w3.drew.setCell ⟨D,S.st,none⟩ (.int .u64 ((2 ^ S.tk:Nat):Int))) h S A s ⟨C,B,D⟩ n E F G/\TG S n G):=⟨_,(H3.out.step (qk w3)).setG S.st (2 ^ S.tk),TG.begin k5 HX.out.2.2⟩
    generalize 2 ^ S.tk=pw at HO H4
    clear H3
    go_upto_region 19 with fail
    have i6:Hid (w3.drew.cell? ⟨s,10,none⟩=some (.slice (some ⟨D,0,none⟩) n n)/\w3.drew.cell? ⟨A,0,none⟩=some (.int .i64 (S.tk:Int))/\w3.drew.cell? ⟨A,2,none⟩=some (.int .i64 (S.st:Int))):=⟨aa,c0,c2⟩
    refine wp_region_held_drew (S:=fun O=>O.cell? ⟨s,10,none⟩=some (.slice (some ⟨D,0,none⟩) n n)/\O.cell? ⟨A,0,none⟩=some (.int .i64 (S.tk:Int))/\O.cell? ⟨A,2,none⟩=some (.int .i64 (S.st:Int))) (by kernel_rfl) i6.out (fun d=>?_)
    refine wpAnyH_take (i:=0) (v:=.pointer (some ⟨s,0,none⟩)) rfl (by kernel_rfl) (by kernel_rfl) (by kernel_rfl) (fun _ _ _ h=>h) (Or.inl ⟨by rfl,fun H f=>?_⟩) d ?_
    ·(obtain⟨m,o,d4⟩:=f;go_simp)
    simp only[Act.put]
    refine wpAnyH_take (i:=1) (v:=.pointer (some ⟨s,0,none⟩)) rfl (by kernel_rfl) (by kernel_rfl) (by kernel_rfl) (fun _ _ _ h=>h) (Or.inl ⟨by rfl,fun H f=>?_⟩) d ?_
    ·(obtain⟨m,o,d4⟩:=f;go_simp)
    simp only[Act.put]
    refine wpAnyH_take (i:=2) (v:=.pointer (some ⟨s,10,none⟩)) rfl (by kernel_rfl) (by kernel_rfl) (by kernel_rfl) (fun _ _ _ h=>h) (Or.inl ⟨by rfl,fun H f=>?_⟩) d ?_
    ·(obtain⟨m,o,d4⟩:=f;go_simp)
    simp only[Act.put]
    refine wpAnyH_take (i:=3) (v:=.slice (some ⟨D,0,none⟩) n n) rfl (by kernel_rfl) (by kernel_rfl) (by kernel_rfl) (fun _ _ _ h=>h) (Or.inl ⟨by rfl,fun H f=>?_⟩) d ?_
    ·(obtain⟨m,o,d4⟩:=f;go_simp)
    simp only[Act.put]
    refine wpAnyH_take (i:=4) (v:=.pointer (some ⟨A,2,none⟩)) rfl (by kernel_rfl) (by kernel_rfl) (by kernel_rfl) (fun _ _ _ h=>h) (Or.inl ⟨by rfl,fun H f=>?_⟩) d ?_
    ·(obtain⟨m,o,d4⟩:=f;go_simp)
    simp only[Act.put]
    refine wpAnyH_take (i:=5) (v:=.int .i64 (S.st:Int)) rfl (by kernel_rfl) (by kernel_rfl) (by kernel_rfl) (fun _ _ _ h=>h) (Or.inl ⟨by rfl,fun H f=>?_⟩) d ?_
    ·(obtain⟨m,o,d4⟩:=f;go_simp)
    simp only[Act.put]
    refine wpAnyH_take (i:=6) (v:=.pointer (some ⟨A,0,none⟩)) rfl (by kernel_rfl) (by kernel_rfl) (by kernel_rfl) (fun _ _ _ h=>h) (Or.inl ⟨by rfl,fun H f=>?_⟩) d ?_
    ·(obtain⟨m,o,d4⟩:=f;go_simp)
    simp only[Act.put]
    refine wpAnyH_take (i:=7) (v:=.int .i64 (S.tk:Int)) rfl (by kernel_rfl) (by kernel_rfl) (by kernel_rfl) (fun _ _ _ h=>h) (Or.inl ⟨by rfl,fun H f=>?_⟩) d ?_
    ·(obtain⟨m,o,d4⟩:=f;go_simp)
    simp only[Act.put]
    refine wpAnyH_ready (rs:=[8]) (by kernel_rfl) (by simp) ?_
    refine AllReadyH.cons rfl (fun K X=>?_) AllReadyH.nil
    refine qcz rfl 55 #[.int .i64 (S.tk:Int)] (.int .u64 (pw:Int)) (by simp[Act.eval,go_sem]) (HO.out _) (X.out _ _ i6.out (fun d=>?_))
    clear X K
    simp only[Act.put]
    refine wpAnyH_take (i:=9) (v:=.pointer (some ⟨D,S.st,none⟩)) rfl (by kernel_rfl) (by kernel_rfl) (by kernel_rfl) (fun _ _ _ h=>h) (Or.inl ⟨by rfl,fun H f=>?_⟩) d ?_
    ·(obtain⟨m,o,d4⟩:=f;go_simp)
    simp only[Act.put]
    refine wpAnyH_ready (rs:=[10]) (by kernel_rfl) (by simp) ?_
    refine AllReadyH.cons rfl (fun K X=>?_) AllReadyH.nil
    go_simp
    refine X.out _ _ ⟨qz aa n3.symm,qz c0 n6.symm,qz c2 n6.symm⟩ (fun d=>?_)
    clear X K d
    refine wpAnyH_done (by kernel_rfl) ?_ _
    obtain⟨w4,i7⟩:∃w4,Hid ((w3.setCell ⟨D,S.st,none⟩ (.int .u64 (pw:Int))).drew=w4):=⟨_,rfl⟩
    rw[i7.out]
    have H4:Hid (∃G,NW w w4 h S A s ⟨C,B,D⟩ n E F G/\TG S n G):=by
     obtain⟨G,z⟩:=H4.out
     rw[<-i7.out]
     exact⟨G,z⟩
    clear c0 c2 aa n3 n6 fa ua va HO m8 i6 i7
    obtain⟨G0,H5⟩:=H4.out
    have H5:Hid (NW w w4 h S A s ⟨C,B,D⟩ n E F G0/\TG S n G0):=H5
    clear H4
    obtain⟨M,HM⟩:∃M,Hid (zbs G0+1=M):=⟨_,rfl⟩
    as_aux_lemma =>
     go_wp2_with fail
     go_loopg [11] M (fun kx s11 wr=>∃b:Bool,s11=.bool b/\Hid (∃G,RN2 w wr h S A s ⟨C,B,D⟩ n E F G/\(b=false->uaw S E F G Y)/\(b=true->zbs G+1<=kx)))
     case atStart=>exact⟨true,rfl,(⟨_,H5.out,(fun e=>by cases e),fun _=>Nat.le_of_eq HM.out⟩:∃G,RN2 w w4 h S A s ⟨C,B,D⟩ n E F G/\(true=false->uaw S E F G Y)/\(true=true->zbs G+1<=M))⟩
     case round =>
      clear H5 HM
      obtain⟨b,rfl,J⟩:=hrel
      obtain⟨G1,y0,c8,d6⟩:=J.out
      cases b
      ·have HF:Hid (∃A s p E F G,Ending.returned (.pointer (some ⟨s,0,none⟩))=.returned (.pointer (some ⟨s,0,none⟩))/\NW w wr h S A s p n E F G/\Told8 S n E F G):=⟨A,s,_,E,F,G1,rfl,y0.1,a2.out.el,a2.out.fl,y0.2.gl,a2.out.lt,y0.2.lt,HT.out,y0.2.done HT.out (fun j k r h0 hr hk=>c8 rfl j k r h0 (by rw[<-a4.out];exact(List.getElem?_eq_some_iff.1 hr).1) hr hk)⟩
       have f2:Hid (∃o3 n9 p E F G,Ending.returned (.pointer (some ⟨s,0,none⟩))=.returned (.pointer (some ⟨n9,0,none⟩))/\NW w wr h S o3 n9 p n E F G/\Told8 S n E F G):=⟨A,s,_,E,F,G1,rfl,y0.1,a2.out.el,a2.out.fl,y0.2.gl,a2.out.lt,y0.2.lt,HT.out,y0.2.done HT.out (fun j k r h0 hr hk=>c8 rfl j k r h0 (by rw[<-a4.out];exact(List.getElem?_eq_some_iff.1 hr).1) hr hk)⟩
       clear y0 c8 d6 J HF
       go_wp2_with fail
       go_ret
       exact f2.out
      ·obtain⟨R,a0⟩:∃R,Hid (zbs G1=R):=⟨_,rfl⟩
       have l6:R+1<=gk:=by rw[<-a0.out];exact d6 rfl
       have g2:Hid (RN2 w wr h S A s ⟨C,B,D⟩ n E F G1):=y0
       clear y0 c8 d6 J
       obtain⟨wo,p1⟩:∃wo,wo=wr:=⟨_,rfl⟩
       subst wr
       go_wp2_with fail
       go_loopg [11,12] Y (fun kx s11 s12 wr=>∃(b:Bool) (i:Nat),s11=.bool b/\s12=.int .i64 i/\1<=i/\i<=Y/\Y - i<=kx/\Hid (∃G,RN2 w wr h S A s ⟨C,B,D⟩ n E F G/\(b=false->uaw S E F G i/\zbs G<=R)/\(b=true->zbs G+1<=R)))
       case atStart=>exact⟨false,1,rfl,rfl,Nat.le_refl _,h6,by omega,(⟨G1,g2.out,fun _=>⟨fun j k r h0 h1=>by omega,by rw[a0.out];exact Nat.le_refl _⟩,(fun e=>by cases e)⟩:∃G,RN2 w wo h S A s ⟨C,B,D⟩ n E F G/\(false=false->uaw S E F G 1/\zbs G<=R)/\(false=true->zbs G+1<=R))⟩
       case round =>
        clear g2
        obtain⟨b,i,rfl,rfl,m2,hi,m0,J⟩:=hrel
        obtain⟨G2,y,a5,b2⟩:=J.out
        obtain⟨-,-,-,-,-,-,-,c7⟩:=sbox y.1.bs
        rw[f3.out,a4.out]at c7
        by_cases d8:i<Y
        ·have a7:(i:Int)<(Y:Int):=by omega
         obtain⟨r,hr⟩:∃r,S.rs[i]?=some r:=⟨S.rs[i]'(by rw[a4.out];exact d8),List.getElem?_eq_getElem _⟩
         obtain⟨p4,p5,xa,L,b3,d0,d1,d2,d3,f0⟩:=HX.out.2.1.rl.at hr
         rw[f3.out]at b3
         cases b3
         have d0:=qj y.1.bel d0
         have d1:=qj y.1.bel d1
         have d2:=qj y.1.bel d2
         have d3:=qj y.1.bel d3
         have h9:=ze f0
         have h7:r.r.length<=20:=HX.out.1.ln r (List.mem_of_getElem? hr)
         obtain⟨I,g5,n0,d5⟩:=HX.out.1.wf.rl i r (by omega) hr
         rw[<-HX.out.1.nn]at d5
         have hv:Below wr.heap.size wr (wr.alloc (.cells #[.int .i64 r.l,.slice xa r.r.length L,.int .i64 r.lv,.int .i64 r.a] 47)):=qb _ _
         have HR:Hid (S.rs[i]?=some r/\Row w 1 xa r.r.length L (natC r.r)/\r.l=(I:Int)):=⟨hr,f0,g5⟩
         obtain⟨N,Z⟩:∃N,Hid (r.r.length=N):=⟨_,rfl⟩
         have k6:(wr.alloc (.cells #[.int .i64 r.l,.slice xa r.r.length L,.int .i64 r.lv,.int .i64 r.a] 47)).heap[wr.heap.size]?=some (.cells #[.int .i64 r.l,.slice xa r.r.length L,.int .i64 r.lv,.int .i64 r.a] 47 (0,0)):=heap_alloc_new _ _
         rw[Z.out]at d1 h7 h9 hv k6
         have HV:Hid ((∃G,RN2 w (wr.alloc (.cells #[.int .i64 r.l,.slice xa N L,.int .i64 r.lv,.int .i64 r.a] 47)) h S A s ⟨C,B,D⟩ n E F G/\K2 S E F G i 0 R b)/\(wr.alloc (.cells #[.int .i64 r.l,.slice xa N L,.int .i64 r.lv,.int .i64 r.a] 47)).heap[wr.heap.size]?=some (.cells #[.int .i64 r.l,.slice xa N L,.int .i64 r.lv,.int .i64 r.a] 47 (0,0))):=⟨⟨G2,⟨y.1.step hv,y.2⟩,fun e=>⟨(a5 e).1,fun k' o6=>absurd o6 (Nat.not_lt_zero _),(a5 e).2⟩,b2⟩,k6⟩
         clear y a5 b2 J hr f0 hv k6 g5 G2
         go_upto_region 27 with fail
         obtain⟨Q,f7⟩:∃Q,Hid (Q=wr.heap.size):=⟨_,rfl⟩
         rw[<-f7.out]at HV ⊢
         generalize wr.alloc (.cells #[.int .i64 r.l,.slice xa N L,.int .i64 r.lv,.int .i64 r.a] 47)=V at HV ⊢
         clear f7 d0 d1 d2 d3 c7
         go_wp2_with fail
         go_loopg [11,14] N (fun kx s11 s14 wr=>∃(b:Bool) (k:Nat),s11=.bool b/\s14=.int .i64 k/\k<=N/\N - k<=kx/\Hid ((∃G,RN2 w wr h S A s ⟨C,B,D⟩ n E F G/\K2 S E F G i k R b)/\wr.heap[Q]?=some (.cells #[.int .i64 r.l,.slice xa N L,.int .i64 r.lv,.int .i64 r.a] 47 (0,0))))
         case atStart=>exact⟨b,0,rfl,rfl,Nat.zero_le _,by omega,HV⟩
         case round =>
          clear HV
          obtain⟨b,k,rfl,rfl,hk,q3,J⟩:=hrel
          obtain⟨⟨G,y,h5⟩,d7⟩:=J.out
          have e1:wr.cell? ⟨Q,1,none⟩=some (.slice xa N L):=by rw[qe d7];rfl
          by_cases m4:k<N
          ·have k3:(k:Int)<(N:Int):=by omega
           obtain⟨z,hz⟩:∃z,r.r[k]?=some z:=⟨r.r[k]'(by rw[Z.out];exact m4),List.getElem?_eq_getElem _⟩
           have a3:=HR.out.2.1
           rw[Z.out]at a3
           obtain⟨xb,xo,rfl,cz⟩:=vj (a3.below y.1.bel) hz
           have i1:=(HX.out.1.sy r (List.mem_of_getElem? HR.out.1) z (List.mem_of_getElem? hz)).1
           have b6:Hid (Calls Tryz.prog 56 #[.pointer (some ⟨s,0,none⟩),.slice (some ⟨xb,xo+(k+1),none⟩) (N - (k+1)) (L - (k+1))] wr fun e O=>e=.returned (.tuple #[.int .u64 ((ofW E F (r.r.drop (k+1))).1:Int),.bool (ofW E F (r.r.drop (k+1))).2])/\Below wr.heap.size wr O):=uam wr w.heap.size s ⟨C,B,D⟩ h S n E F _ y.1.rt a2.out.lt (r.r.drop (k+1)) _ _ _ (by rw[List.length_drop,Z.out]) (by omega) (uca (a3.below y.1.bel) (by omega)) (fun z hz=>(HX.out.1.sy r (List.mem_of_getElem? HR.out.1) z (List.mem_of_mem_drop hz)).1)
           have a6:L=k+1->Hid (Calls Tryz.prog 56 #[.pointer (some ⟨s,0,none⟩),.slice (some ⟨xb,xo,none⟩) (N - (k+1)) 0] wr fun e O=>e=.returned (.tuple #[.int .u64 ((ofW E F (r.r.drop (k+1))).1:Int),.bool (ofW E F (r.r.drop (k+1))).2])/\Below wr.heap.size wr O):=fun i0=>uam wr w.heap.size s ⟨C,B,D⟩ h S n E F _ y.1.rt a2.out.lt (r.r.drop (k+1)) _ _ _ (by rw[List.length_drop,Z.out]) (by omega) (uci (by rw[Z.out];omega) (by omega)) (fun z hz=>(HX.out.1.sy r (List.mem_of_getElem? HR.out.1) z (List.mem_of_mem_drop hz)).1)
           have HZ:Hid (r.r[k]?=some z):=hz
           have HJ:Hid (RN2 w wr h S A s ⟨C,B,D⟩ n E F G/\K2 S E F G i k R b/\wr.heap[Q]?=some (.cells #[.int .i64 r.l,.slice (some ⟨xb,xo,none⟩) N L,.int .i64 r.lv,.int .i64 r.a] 47 (0,0))):=⟨y,h5,d7⟩
           have b4:=uau (yr E a2.out.lt (r.r.drop (k+1)))
           clear y h5 d7 J a3 hz cz
           obtain⟨v,b9⟩:∃v,Hid ((ofW E F (r.r.drop (k+1))).1=v):=⟨_,rfl⟩
           obtain⟨bb,b0⟩:∃bb,Hid ((ofW E F (r.r.drop (k+1))).2=bb):=⟨_,rfl⟩
           rw[b9.out]at b4 b6 a6
           rw[b0.out]at b6 a6
           go_upto_region 30 with fail
           go_cut [15,16] from 152 to 217 (fun s15 s16 wd=>s15=.int .u64 (v:Int)/\s16=.bool bb/\Hid (Below wr.heap.size wr wd))
           case first =>
            as_aux_lemma =>
             by_cases i0:L=k+1
             ·have o1:=a6 i0
              have p2:L - (k+1)=0:=by omega
              have p3:((L - (k+1):Nat):Int)=0:=by omega
              clear b6 a6 i0
              go_wp2_with fail
              refine o1.out.mono ?_
              rintro e V2 ⟨rfl,T⟩
              have T:Hid (Below wr.heap.size wr V2):=T
              go_wp2_with fail
              go_meet
              exact⟨rfl,rfl,T⟩
             ·have p2:¬L - (k+1)=0:=by omega
              have p3:0<L - (k+1):=by omega
              clear a6 i0
              go_wp2_with fail
              refine b6.out.mono ?_
              rintro e V2 ⟨rfl,T⟩
              have T:Hid (Below wr.heap.size wr V2):=T
              go_wp2_with fail
              go_meet
              exact⟨rfl,rfl,T⟩
           case rest =>
           obtain⟨rfl,rfl,T⟩:=hcut
           obtain⟨V2,q2⟩:∃V2,V2=wc:=⟨_,rfl⟩
           subst wc
           clear e1 b6 a6
           have a1:Hid (RN2 w V2 h S A s ⟨C,B,D⟩ n E F G/\K2 S E F G i k R b/\V2.heap[Q]?=some (.cells #[.int .i64 r.l,.slice (some ⟨xb,xo,none⟩) N L,.int .i64 r.lv,.int .i64 r.a] 47 (0,0))):=⟨⟨HJ.out.1.1.step T.out,HJ.out.1.2⟩,HJ.out.2.1,qf T.out HJ.out.2.2⟩
           clear HJ T
           obtain⟨a,P⟩:∃a,Hid (wd G z=a):=⟨_,rfl⟩
           obtain⟨g,g6⟩:∃g,Hid (wd G I=g):=⟨_,rfl⟩
           obtain⟨bw,b5⟩:∃bw,Hid (uas E F G I (r.r.drop (k+1))=bw):=⟨_,rfl⟩
           obtain⟨ov,U⟩:∃ov,Hid (a ||| bw=ov):=⟨_,rfl⟩
           have f5:a<18446744073709551616:=by rw[<-P.out];exact uau (uaa a1.out.1.2.lt z)
           have m1:g<18446744073709551616:=by rw[<-g6.out];exact uau (uaa a1.out.1.2.lt I)
           have l5:bw<18446744073709551616:=by rw[<-b5.out];exact uau (ua4 a2.out.lt a1.out.1.2.lt _ _)
           have k4:=bits_or_u64_nat a bw f5 l5
           have m5:=bits_or_u64_nat v g b4 m1
           rw[U.out]at k4
           have f8:Hid ((if bb then v ||| g else v)=bw):=by
            rw[<-b5.out,<-b0.out,<-b9.out,<-g6.out]
            rfl
           have m9:(I:Int)<(n:Int):=by omega
           have p7:(z:Int)<(n:Int):=by omega
           have HC:Hid (∀W,Below V2.heap.size V2 W->W.cell? ⟨s,10,none⟩=some (.slice (some ⟨D,0,none⟩) n n)/\W.cell? ⟨Q,0,none⟩=some (.int .i64 (I:Int))/\W.cell? ⟨Q,1,none⟩=some (.slice (some ⟨xb,xo,none⟩) N L)/\W.cell? ⟨xb,xo+k,none⟩=some (.int .i64 (z:Int))/\W.cell? ⟨A,0,none⟩=some (.int .i64 (S.tk:Int))/\W.cell? ⟨D,I,none⟩=some (.int .u64 (g:Int))/\W.cell? ⟨D,z,none⟩=some (.int .u64 (a:Int))/\W.frozen? ⟨D,z,none⟩=false):=fun W hW=>by
            have y:=a1.out.1.1.step hW
            obtain⟨-,-,L3⟩:=y.rt.cells
            have z4:=uac y.rt.fol d5
            have z5:=uac y.rt.fol i1
            rw[g6.out]at z4
            rw[P.out]at z5
            have hb:=qf hW a1.out.2.2
            have a3:=HR.out.2.1
            rw[Z.out]at a3
            obtain⟨r3,r4,he,cz⟩:=vj (a3.below y.bel) HZ.out
            cases he
            exact⟨L3,by rw[qe hb,HR.out.2.2];rfl,by rw[qe hb];rfl,cz,(sbox y.bs).1,z4,z5,y.rt.fol.frozenAt z⟩
           have mx:=qay
           go_upto_if 169 with fail
           go_cut [15] from 152 to 217 (fun s15 wd=>s15=.int .u64 (bw:Int)/\Hid (Below V2.heap.size V2 wd))
           case first =>
            as_aux_lemma =>
             cases bb
             ·have f6:=f8.out
              rw[if_neg (by decide)]at f6
              subst f6
              go_wp2_with fail
              go_meet
              exact⟨rfl,Below.refl _ _⟩
             ·have f6:=f8.out
              rw[if_pos rfl]at f6
              rw[f6]at m5
              clear f6
              obtain⟨aa,e0,-,-,-,e5,-,-⟩:=HC.out V2 (Below.refl _ _)
              have g1:Hid (∀q,Below V2.heap.size V2 (V2.drewN q)):=fun q=>yh (Below.refl _ _) q
              go_upto_region 32 with fail
              go_quiet (fail)
              go_wp2_with fail
              go_meet
              exact⟨rfl,g1.out _⟩
           case rest =>
            as_aux_lemma =>
             obtain⟨rfl,l4⟩:=hcut
             obtain⟨w6,r1⟩:∃w6,w6=wc:=⟨_,rfl⟩
             subst wc
             obtain⟨aa,e0,e1,cz,c0,-,e6,-⟩:=HC.out w6 l4.out
             have HQ:Hid (∀q,(RN2 w (w6.drewN q) h S A s ⟨C,B,D⟩ n E F G/\K2 S E F G i k R b)/\(w6.drewN q).heap[Q]?=some (.cells #[.int .i64 r.l,.slice (some ⟨xb,xo,none⟩) N L,.int .i64 r.lv,.int .i64 r.a] 47 (0,0))):=fun q=>by
              have hb:=qd l4.out (yh (Below.refl _ w6) q)
              exact⟨⟨⟨a1.out.1.1.step hb,a1.out.1.2⟩,a1.out.2.1⟩,qf hb a1.out.2.2⟩
             clear m5 f8 HC m1 g6 b9 b0 b4
             by_cases n4:S.tk<z
             ·have n5:(S.tk:Int)<(z:Int):=by omega
              by_cases d9:ov=a
              ·subst d9
               have HF:Hid (∀q,(∃G,RN2 w (w6.drewN q) h S A s ⟨C,B,D⟩ n E F G/\K2 S E F G i (k+1) R b)/\(w6.drewN q).heap[Q]?=some (.cells #[.int .i64 r.l,.slice (some ⟨xb,xo,none⟩) N L,.int .i64 r.lv,.int .i64 r.a] 47 (0,0))):=fun q=>⟨⟨G,(HQ.out q).1.1,(HQ.out q).1.2.same (ube HR.out.1 HR.out.2.2 HZ.out (fun _=>by rw[b5.out,P.out];exact U.out))⟩,(HQ.out q).2⟩
               clear HQ a1 U P b5
               go_upto_region 34 with fail
               go_quiet (fail)
               go_wp2_with fail
               go_roundg (N - (k+1))
               case measure=>omega
               case rel=>exact⟨b,k+1,rfl,by simp,by omega,Nat.le_refl _,HF.out _⟩
              ·have l9:((ov:Int) != (a:Int))=true:=by rw[bne_iff_ne];omega
               have HF:Hid (∀q,(∃G,RN2 w ((w6.drewN q).setCell ⟨D,z,none⟩ (.int .u64 (ov:Int))) h S A s ⟨C,B,D⟩ n E F G/\K2 S E F G i (k+1) R true)/\((w6.drewN q).setCell ⟨D,z,none⟩ (.int .u64 (ov:Int))).heap[Q]?=some (.cells #[.int .i64 r.l,.slice (some ⟨xb,xo,none⟩) N L,.int .i64 r.lv,.int .i64 r.a] 47 (0,0))):=fun q=>by
                have y:=(HQ.out q).1.1
                have d8:wd G z ||| uas E F G I (r.r.drop (k+1))≠wd G z:=by rw[b5.out,P.out,U.out];exact d9
                have y2:=y.1.setG z ov
                rw[<-U.out,<-P.out,<-b5.out]at y2 ⊢
                refine⟨⟨_,⟨y2,y.2.add a2.out.lt HT.out (by omega) HR.out.1 HR.out.2.2 HZ.out n4 i1⟩,(HQ.out q).1.2.more (y.2.less i1 (ua4 a2.out.lt y.2.lt _ _) d8)⟩,?_⟩
                rw[Below.heap_setCell _ _ _ _ (qr ⟨_,(HQ.out q).2⟩ (qw y.1.rt.fol (b:=D) rfl).2.2 (by decide))]
                exact(HQ.out q).2
               have l3:Hid (∀q,(w6.drewN q).cell? ⟨s,10,none⟩=some (.slice (some ⟨D,0,none⟩) n n)/\(w6.drewN q).cell? ⟨D,z,none⟩=some (.int .u64 (a:Int))/\(w6.drewN q).frozen? ⟨D,z,none⟩=false):=fun q=>by
                have y:=(HQ.out q).1.1.1
                obtain⟨-,-,L3⟩:=y.rt.cells
                have z5:=uac y.rt.fol i1
                rw[P.out]at z5
                exact⟨L3,z5,y.rt.fol.frozenAt z⟩
               clear HQ a1 U P b5 d9
               go_upto_region 34 with fail
               go_quiet (fail)
               obtain⟨y1,y2,y3⟩:=l3.out nq
               have f2:=HF.out nq
               clear HF l3 aa e0 e1 cz c0 e6 l9
               generalize w6.drewN nq=w7 at f2 y1 y2 y3 ⊢
               have f2:Hid _:=f2
               go_wp2_with fail
               go_roundg (N - (k+1))
               case measure=>omega
               case rel=>exact⟨true,k+1,rfl,by simp,by omega,Nat.le_refl _,f2⟩
             ·have n5:¬(S.tk:Int)<(z:Int):=by omega
              have HF:Hid (∀q,(∃G,RN2 w (w6.drewN q) h S A s ⟨C,B,D⟩ n E F G/\K2 S E F G i (k+1) R b)/\(w6.drewN q).heap[Q]?=some (.cells #[.int .i64 r.l,.slice (some ⟨xb,xo,none⟩) N L,.int .i64 r.lv,.int .i64 r.a] 47 (0,0))):=fun q=>⟨⟨G,(HQ.out q).1.1,(HQ.out q).1.2.same (ube HR.out.1 HR.out.2.2 HZ.out (fun e=>absurd e n4))⟩,(HQ.out q).2⟩
              clear HQ a1 U P b5
              go_upto_region 34 with fail
              go_quiet (fail)
              go_wp2_with fail
              go_roundg (N - (k+1))
              case measure=>omega
              case rel=>exact⟨b,k+1,rfl,by simp,by omega,Nat.le_refl _,HF.out _⟩
          ·have k3:¬(k:Int)<(N:Int):=by omega
           have HF:Hid (∃G,RN2 w wr h S A s ⟨C,B,D⟩ n E F G/\(b=false->uaw S E F G (i+1)/\zbs G<=R)/\(b=true->zbs G+1<=R)):=⟨G,y,h5.done HR.out.1 (by rw[Z.out];omega)⟩
           clear y h5 d7 J
           go_wp2_with fail
           go_roundg (Y - (i+1))
           case measure=>omega
           case rel=>exact⟨b,i+1,rfl,by simp,by omega,by omega,Nat.le_refl _,HF⟩
        ·have a7:¬(i:Int)<(Y:Int):=by omega
         have HF:Hid (∃G,RN2 w wr h S A s ⟨C,B,D⟩ n E F G/\(b=false->uaw S E F G Y)/\(b=true->zbs G+1<=R)):=by
          have:i=Y:=by omega
          subst this
          exact⟨G2,y,fun e=>(a5 e).1,b2⟩
         clear y a5 b2 J
         go_wp2_with fail
         go_roundg R
         case measure=>omega
         case rel=>exact⟨b,rfl,HF⟩
theorem ua7{b:Nat->Bool}{m:Nat}(h:∀t,m<=t->b t=false):∀d,upTo b (m+d)=upTo b m
 | 0=>rfl
 | d+1=>by
  rw[<-Nat.add_assoc,qnr,h (m+d) (by omega),if_neg (by decide)]
  exact ua7 h d
theorem uax{u m:Nat}{Q:Nat->Prop}(c:m<=64)(h:∀t,u.testBit t=true↔Q t)(b:∀t,Q t->t<m):IsL m Q (upTo (fun t=>u.testBit t) 64):=by
 have e:64=m+(64 - m):=by omega
 rw[e,ua7 (fun t d=>by
  cases a:u.testBit t
  ·rfl
  ·have:=b t ((h t).1 a);omega)]
 exact⟨_,fun t _=>h t,rfl⟩
theorem yl{V:World}{m:Nat}{Q:Nat->Prop}{l k:List Nat}{a b:Option Addr}{c d:Nat}(h:m<=1000)(f:IsL m Q l)(g:IsL m Q k)(i:Row V 1 a l.length c (natC l))(j:Row V 1 b k.length d (natC k)):Calls Tryz.prog 27 #[.slice a l.length c,.slice b k.length d] V fun e n=>e=.returned (.bool true)/\Below V.heap.size V n:=by
 have:=f.uni g
 subst this
 exact qbr l a b l.length c d V i j rfl (Nat.le_trans (ucs f) h)
def Q1 (S:Sp) (n:Nat) (i:Int) (t:Nat):Prop:=∃x:Nat,i=(x:Int)/\x<n/\FstP S x t
def Q2 (S:Sp) (n:Nat) (i:Int) (t:Nat):Prop:=∃x:Nat,i=(x:Int)/\S.tk<x/\x<n/\FolP S x t
theorem ubt{S:Sp}{n x t:Nat}(a:x<n):Q1 S n (x:Int) t↔FstP S x t:=⟨fun⟨y,b,_,h⟩=>by
 have:x=y:=by omega
 subst this
 exact h,fun h=>⟨x,rfl,a,h⟩⟩
theorem ubu{S:Sp}{n x t:Nat}(b:x<n)(a:S.tk<x):Q2 S n (x:Int) t↔FolP S x t:=⟨fun⟨y,c,_,_,h⟩=>by
 have:x=y:=by omega
 subst this
 exact h,fun h=>⟨x,rfl,a,b,h⟩⟩
theorem ucc(V:World)(B a n:Nat)(p:FP)(E:List Bool)(S:Sp)(c:List (List Nat))(h:FS V B a p n S E c)(i:Int):Calls Tryz.prog 20 #[.pointer (some ⟨a,0,none⟩),.int .i64 i] V fun e b=>Told V b (S.tk+1) (Q1 S n i) e:=by
 by_cases g:i≠(S.tk:Int)/\0<=i/\i<(n:Int)
 ·obtain⟨x,rfl⟩:∃x:Nat,i=(x:Int):=⟨i.toNat,by omega⟩
  exact(qgt V B a n p E S c h x (by omega) (by omega)).mono (fun e b d=>d.congr (fun t _=>(ubt (by omega)).symm))
 ·refine(ubr V B a n p E S c h i g).mono (fun e b d=>d.congr (fun t _=>⟨False.elim,?_⟩))
  rintro⟨x,rfl,l,j⟩
  have f:x=S.tk:=by
   apply Classical.byContradiction
   intro k
   exact g ⟨by omega,by omega,by omega⟩
  subst f
  have:=(qg9 h.wf (Nat.le_refl _) j).1
  omega
theorem ubv(V:World)(B a n:Nat)(p:FP)(E:List Bool)(S:Sp)(c:List (List Nat))(h:FS V B a p n S E c)(i:Int):Calls Tryz.prog 21 #[.pointer (some ⟨a,0,none⟩),.int .i64 i] V fun e b=>Told V b (S.tk+1) (Q2 S n i) e:=by
 by_cases d:(S.tk:Int)<i/\i<(n:Int)
 ·obtain⟨x,rfl⟩:∃x:Nat,i=(x:Int):=⟨i.toNat,by omega⟩
  exact(qdx V B a n p E S c h x (by omega) (by omega)).mono (fun e b g=>g.congr (fun t _=>(ubu (by omega) (by omega)).symm))
 ·refine(ubg V B a n p E S c h i d).mono (fun e b ⟨f,j⟩=>?_)
  subst f j
  refine ub6 _ _ (fun t _=>?_) (Below.refl _ _)
  rintro⟨x,rfl,k,l,-⟩
  exact d ⟨by omega,by omega⟩
def RGT (w W:World) (h:SHd) (S:Sp) (n b1 fb rb:Nat):Prop:=Below w.heap.size w W/\W.heap[b1]?=some (.cells (sC h S) 31 (0,0))/\(∃B p E WL,FS W B fb p n S E WL)/\∃B p E F G,RT8 W B rb p h S n E F G/\Told8 S n E F G
theorem RGT.step{w W b:World}{h:SHd}{S:Sp}{n c d f:Nat}(r:RGT w W h S n c d f)(a:Below W.heap.size W b):RGT w b h S n c d f:=by
 obtain⟨l,m,⟨B,p,E,j,o⟩,g,k,i,F,G,q,s⟩:=r
 exact⟨qd l a,qf a m,⟨B,p,E,j,o.below a⟩,g,k,i,F,G,q.below a,s⟩
structure AQ8 (V wr:World) (S:Sp) (n i:Nat) (sa:Option Addr) (sc:Nat) (zs:List Nat):Prop where
 bel:Below V.heap.size V wr
 own:wr.ownsRow V.heap.size 3 1 (.slice sa i sc) i (natC zs)
 len:zs.length=i
 rng:∀z∈zs,z<n/\z≠S.tk
theorem AQ8.more{V wr d:World}{S:Sp}{n i:Nat}{k b:Option Addr}{l c:Nat}{zs:List Nat}(h:AQ8 V wr S n i k l zs)(y:Nat)(f:Below V.heap.size wr d)(g:d.ownsRow V.heap.size 3 1 (.slice b (i+1) c) (i+1) (natC (zs++[y])))(j:y<n/\y≠S.tk):AQ8 V d S n (i+1) b c (zs++[y]):=by
 refine⟨h.bel.trans f,g,by rw[List.length_append,h.len];rfl,fun z a=>?_⟩
 rcases List.mem_append.1 a with a | a
 ·exact h.rng z a
 ·rw[List.mem_singleton]at a
  subst a
  exact j
theorem uco{S:Sp}{n:Nat}{E:List Bool}{F G:List Nat}(h:Told8 S n E F G)(l:List Nat)(b t:Nat):(if (ofW E F l).2 then (ofW E F l).1 ||| 2 ^ b else (ofW E F l).1).testBit t=true↔FstL S l t\/((∀z∈l,Nul S z)/\(t:Int)=(b:Int)):=by
 obtain⟨c,d⟩:=ubc h.ef l
 cases a:(ofW E F l).2
 ·rw[if_neg (by decide),d]
  refine⟨.inl,fun k=>k.elim id (fun k=>?_)⟩
  rw[c.2 k.1]at a
  cases a
 ·rw[if_pos rfl,Nat.testBit_or,Bool.or_eq_true,d,Nat.testBit_two_pow]
  have:=c.1 a
  refine or_congr Iff.rfl ⟨fun k=>⟨this,?_⟩,fun k=>?_⟩
  ·have:b=t:=by simpa using k
   omega
  ·have:b=t:=by have:=k.2;omega
   simp[this]
theorem ucz{E:List Bool}{F:List Nat}(h:∀w∈F,w<2 ^ 64)(l:List Nat){b:Nat}(a:b<64):(if (ofW E F l).2 then (ofW E F l).1 ||| 2 ^ b else (ofW E F l).1)<2 ^ 64:=by
 split
 ·exact uaq (yr E h l) (Nat.pow_lt_pow_right (by decide) a)
 ·exact yr E h l
theorem ual(W:World):Row W 1 none 0 0 (natC []):=Row.of_own (World.ownsRow_nil W 0 3 1)
theorem ubh(w:World)(h:SHd)(S:Sp)(n:Nat)(hs:NSp S n)(i7:S.tk<64)(h7:IsSp w h S)(A:Option Addr)(ln lc:Nat)(L:List Int)(hL:RawI w A ln lc L)(bh:Int):
  Calls Tryz.prog 12 #[sv h S,.slice A ln lc,.int .i64 bh] w fun e H=>e=.returned (.bool true)/\Below w.heap.size w H:=by
 have HX:Hid (NSp S n/\S.tk<64/\RawI w A ln lc L/\IsSp w h S):=⟨hs,i7,hL,h7⟩
 have m2:=hs.wf.tk
 have m0:=hs.wf.nt
 have hn:n<=301:=by have:=hs.nn;have:=hs.wf.nt;omega
 have l5:S.tk<n:=by have:=hs.nn;omega
 have i2:Hid ((n:Int)=(S.tk:Int)+1+(S.nt:Int)):=by have:=hs.nn;show _=_;omega
 have f3:Below w.heap.size w (w.alloc (.cells (sC h S) 31)):=qb _ _
 have b6:(w.alloc (.cells (sC h S) 31)).heap[w.heap.size]?=some (.cells (sC h S) 31 (0,0)):=heap_alloc_new _ _
 clear hs h7 hL
 unfold sv sC
 go_enter Tryz.func12,Tryz.ntmps12
 go_upto_region 1 with fail
 have e0:w.alloc (.cells #[.int .i64 (S.tk:Int),.int .i64 (S.nt:Int),.int .i64 (S.st:Int),.int .i64 S.ex,.slice h.na S.nm.length h.nc,.slice h.la S.lv.length h.lc,.slice h.aa S.az.length h.ac,.slice h.ra S.rs.length h.rc] 31)=w.alloc (.cells (sC h S) 31):=rfl
 rw[e0]
 generalize w.alloc (.cells (sC h S) 31)=W0 at f3 b6 ⊢
 obtain⟨s,i1⟩:∃s,Hid (s=w.heap.size):=⟨_,rfl⟩
 rw[<-i1.out]at b6 ⊢
 obtain⟨c0,c1,c2,c3,c4,c5,c6,c7⟩:=sbox b6
 have H0:Hid (Below w.heap.size w W0/\W0.heap[s]?=some (.cells (sC h S) 31 (0,0))):=⟨f3,b6⟩
 clear e0 f3 b6
 have b7:Hid (∀V,Below W0.heap.size W0 V->V.cell? ⟨s,0,none⟩=some (.int .i64 (S.tk:Int))/\V.cell? ⟨s,1,none⟩=some (.int .i64 (S.nt:Int))/\V.cell? ⟨s,2,none⟩=some (.int .i64 (S.st:Int))/\V.cell? ⟨s,3,none⟩=some (.int .i64 S.ex)/\V.cell? ⟨s,4,none⟩=some (.slice h.na S.nm.length h.nc)/\V.cell? ⟨s,5,none⟩=some (.slice h.la S.lv.length h.lc)/\V.cell? ⟨s,6,none⟩=some (.slice h.aa S.az.length h.ac)/\V.cell? ⟨s,7,none⟩=some (.slice h.ra S.rs.length h.rc)):=fun V Q=>sbox (qf Q H0.out.2)
 have d6:Hid (∀V:World,Below W0.heap.size W0 V->Calls Tryz.prog 17 #[.agg #[.int .i64 (S.tk:Int),.int .i64 (S.nt:Int),.int .i64 (S.st:Int),.int .i64 S.ex,.slice h.na S.nm.length h.nc,.slice h.la S.lv.length h.lc,.slice h.aa S.az.length h.ac,.slice h.ra S.rs.length h.rc]] V fun e H=>∃I p E WL,e=.returned (.pointer (some ⟨I,0,none⟩))/\FS H V.heap.size I p n S E WL/\Below V.heap.size V H):=fun V Q=>qgs V h S n HX.out.1 (HX.out.2.2.2.below (qd H0.out.1 Q))
 have f0:Hid (∀V:World,Below W0.heap.size W0 V->Calls Tryz.prog 35 #[.agg #[.int .i64 (S.tk:Int),.int .i64 (S.nt:Int),.int .i64 (S.st:Int),.int .i64 S.ex,.slice h.na S.nm.length h.nc,.slice h.la S.lv.length h.lc,.slice h.aa S.az.length h.ac,.slice h.ra S.rs.length h.rc]] V fun e H=>∃s O p E F G,e=.returned (.pointer (some ⟨O,0,none⟩))/\NW V H h S s O p n E F G/\Told8 S n E F G):=fun V Q=>ubs V h S n HX.out.1 HX.out.2.1 (HX.out.2.2.2.below (qd H0.out.1 Q))
 go_cut [7,8] (fun s7 s8 wd=>∃I O:Nat,s7=.pointer (some ⟨I,0,none⟩)/\s8=.pointer (some ⟨O,0,none⟩)/\Hid (RGT w wd h S n s I O))
 case first =>
  go_region_held (fun H=>H.cell? ⟨s,0,none⟩=some (.int .i64 (S.tk:Int))/\H.cell? ⟨s,1,none⟩=some (.int .i64 (S.nt:Int))/\H.cell? ⟨s,2,none⟩=some (.int .i64 (S.st:Int))/\H.cell? ⟨s,3,none⟩=some (.int .i64 S.ex)/\H.cell? ⟨s,4,none⟩=some (.slice h.na S.nm.length h.nc)/\H.cell? ⟨s,5,none⟩=some (.slice h.la S.lv.length h.lc)/\H.cell? ⟨s,6,none⟩=some (.slice h.aa S.az.length h.ac)/\H.cell? ⟨s,7,none⟩=some (.slice h.ra S.rs.length h.rc)) (first | exact b7.out _ (qk _) | exact b7.out _ b4.out | exact b7.out _ b5.out) (first
   | (go_at_call 17;refine(d6.out _ (by first | exact b5.out | exact qk _)).mono ?_;clear d6;rintro e U ⟨I,p,E1,WL,rfl,N,j⟩;have b4:Hid (Below W0.heap.size W0 U):=(by first | exact qd b5.out j | exact qd (qk _) j))
   | (go_at_call 35;refine(f0.out _ (by first | exact b4.out | exact qk _)).mono ?_;clear f0;rintro e VB ⟨l7,O,q,E,F,G,rfl,f5,h8⟩;have f:=f5.bel;have b5:Hid (Below W0.heap.size W0 VB):=(by first | exact qd b4.out f | exact qd (qk _) f)))
  all_goals
   go_wp2_with fail
   go_meet
   first
    | exact⟨I,O,rfl,rfl,qd H0.out.1 b5.out,qf b5.out H0.out.2,⟨_,p,E1,WL,N.below f⟩,_,q,E,F,G,f5.rt,h8⟩
    | exact⟨I,O,rfl,rfl,qd H0.out.1 b4.out,qf b4.out H0.out.2,⟨_,p,E1,WL,N⟩,_,q,E,F,G,f5.rt.below j,h8⟩
 case rest =>
  obtain⟨I,O,rfl,rfl,J0⟩:=hcut
  obtain⟨w1,m3⟩:∃w1,w1=wc:=⟨_,rfl⟩
  subst wc
  have H1:Hid (RGT w w1 h S n s I O):=J0
  clear J0 c0 c1 c2 c3 c4 c5 c6 c7 b7 d6 f0 H0
  obtain⟨c0,c1,-⟩:=sbox H1.out.2.1
  go_upto_region 3 with fail
  rw[<-i2.out]
  clear c0 c1
  go_upto_block 0 with fail
  go_cut [10] (fun s10 wd=>Hid (RGT w wd h S n s I O))
  case first =>
   go_wp2_with fail
   go_loopg [10] (n+2) (fun kx s10 wr=>∃i:Int,s10=.int .i64 i/\-1<=i/\i<=(n:Int)+1/\((n:Int)+1 - i).toNat<=kx/\Hid (RGT w wr h S n s I O))
   case atStart=>exact⟨-1,rfl,by omega,by omega,by omega,H1⟩
   case round =>
    clear H1
    obtain⟨i,rfl,k2,k3,hg,J⟩:=hrel
    by_cases g7:i<=(n:Int)
    ·obtain⟨em,a0⟩:∃em:Bool,Hid (∀V,Below wr.heap.size wr V->Calls Tryz.prog 23 #[.pointer (some ⟨I,0,none⟩),.int .i64 i] V fun e H=>e=.returned (.bool em)/\H=V)/\Hid (∀x:Nat,i=(x:Int)->x<n->(em=true↔Nul S x))/\Hid (¬(0<=i/\i<(n:Int))->em=false):=by
      obtain⟨-,-,⟨B,p,E,WL,N⟩,-⟩:=J.out
      by_cases X:0<=i/\i<(n:Int)
      ·obtain⟨x,rfl⟩:∃x:Nat,i=(x:Int):=⟨i.toNat,by omega⟩
       refine⟨isF E x,fun V Q=>qc0 V I p.eb n n x _ (N.below Q).fm.c1 (by omega) ((N.below Q).fm.ce (by omega)),fun y hy _=>?_,fun k4=>absurd X k4⟩
       have:x=y:=by omega
       subst this
       exact N.emp x
      ·exact⟨false,fun V Q=>ua2 V I n n _ i (N.below Q).fm.c1 X,fun x hx Z=>absurd ⟨by omega,by omega⟩ X,fun _=>rfl⟩
     obtain⟨a0,d4,d5⟩:=a0
     have a1:Hid (∀V:World,Below wr.heap.size wr V->Calls Tryz.prog 20 #[.pointer (some ⟨I,0,none⟩),.int .i64 i] V fun e W'=>Told V W' (S.tk+1) (Q1 S n i) e):=fun V Q=>by
      obtain⟨-,-,⟨B,p,E,WL,N⟩,-⟩:=J.out
      exact ucc V B I n p E S WL (N.below Q) i
     have a2:Hid (∀V:World,Below wr.heap.size wr V->Calls Tryz.prog 21 #[.pointer (some ⟨I,0,none⟩),.int .i64 i] V fun e W'=>Told V W' (S.tk+1) (Q2 S n i) e):=fun V Q=>by
      obtain⟨-,-,⟨B,p,E,WL,N⟩,-⟩:=J.out
      exact ubv V B I n p E S WL (N.below Q) i
     by_cases X:0<=i/\i<(n:Int)
     ·obtain⟨x,hx⟩:∃x:Nat,i=(x:Int):=⟨i.toNat,by omega⟩
      have Z:x<n:=by omega
      obtain⟨eb,ff,gg,u1,u2,HT,HU⟩:∃eb ff gg u1 u2:Nat,Hid (∀V,Below wr.heap.size wr V->V.cell? ⟨s,0,none⟩=some (.int .i64 (S.tk:Int))/\V.cell? ⟨O,8,none⟩=some (.slice (some ⟨eb,0,none⟩) n n)/\V.cell? ⟨O,9,none⟩=some (.slice (some ⟨ff,0,none⟩) n n)/\V.cell? ⟨O,10,none⟩=some (.slice (some ⟨gg,0,none⟩) n n)/\V.cell? ⟨eb,x,none⟩=some (.bool em)/\V.cell? ⟨ff,x,none⟩=some (.int .u64 (u1:Int))/\V.cell? ⟨gg,x,none⟩=some (.int .u64 (u2:Int)))/\Hid (u1<2 ^ 64/\u2<2 ^ 64/\IsL (S.tk+1) (Q1 S n i) (upTo (fun t=>u1.testBit t) 64)/\(S.tk<x->IsL (S.tk+1) (Q2 S n i) (upTo (fun t=>u2.testBit t) 64))):=by
       obtain⟨-,a4,-,B,p,E,F,G,hr,ht⟩:=J.out
       refine⟨p.eb,p.fb,p.gb,wd F x,wd G x,fun V Q=>?_,?_⟩
       ·obtain⟨L3,L2,ka⟩:=(hr.below Q).cells
        have z:=qrm (hr.below Q).emp Z
        have L1:isF E x=em:=by
         have h1:=d4.out x hx Z
         have h2:=ht.ef.1 x
         cases em
         ·cases l:isF E x
          ·rfl
          ·have:=h1.2 (h2.1 l);cases this
         ·exact h2.2 (h1.1 rfl)
        rw[L1]at z
        exact⟨(sbox (qf Q a4)).1,L3,L2,ka,z,uac (hr.below Q).fst Z,uac (hr.below Q).fol Z⟩
       ·rw[hx]
        refine⟨uaa ht.flt x,uaa ht.glt x,uax (by have:=HX.out.2.1;omega) (fun t=>(ht.ef.2 x t).trans (ubt Z).symm) (fun t l=>?_),fun h9=>uax (by have:=HX.out.2.1;omega) (fun t=>(ht.fol x t).trans (ubu Z h9).symm) (fun t l=>?_)⟩
        ·have:=((ubt Z).1 l).lt;omega
        ·have:=((ubu Z h9).1 l).le;omega
      subst hx
      have l6:(x:Int)<(n:Int):=by omega
      have m6:(0:Int)<=(x:Int):=by omega
      obtain⟨l1,d7⟩:∃l1,Hid (upTo (fun t=>u1.testBit t) 64=l1):=⟨_,rfl⟩
      obtain⟨l2,d8⟩:∃l2,Hid (upTo (fun t=>u2.testBit t) 64=l2):=⟨_,rfl⟩
      have g1:Hid (∀V:World,Calls Tryz.prog 36 #[.int .u64 (u1:Int)] V fun e H=>∃la lc,e=.returned (.slice la l1.length lc)/\H.ownsRow V.heap.size 3 1 (.slice la l1.length lc) l1.length (natC l1)/\Below V.heap.size V H):=fun V=>by rw[<-d7.out];exact uat V u1 HU.out.1
      have f1:Hid (∀V:World,Calls Tryz.prog 36 #[.int .u64 (u2:Int)] V fun e H=>∃la lc,e=.returned (.slice la l2.length lc)/\H.ownsRow V.heap.size 3 1 (.slice la l2.length lc) l2.length (natC l2)/\Below V.heap.size V H):=fun V=>by rw[<-d8.out];exact uat V u2 HU.out.2.1
      have f2:Hid (IsL (S.tk+1) (Q1 S n (x:Int)) l1/\(S.tk<x->IsL (S.tk+1) (Q2 S n (x:Int)) l2)):=by rw[<-d7.out,<-d8.out];exact HU.out.2.2
      clear HU d7 d8 d4 d5 X
      obtain⟨c0,a8,a9,aa,t8,t9,ta⟩:=HT.out wr (Below.refl _ _)
      go_wp2_with fail
      refine(a0.out wr (Below.refl _ _)).mono ?_
      rintro e w2 ⟨rfl,rfl⟩
      clear a0
      go_wp2_with fail
      refine(g1.out _).mono ?_
      rintro e w3 ⟨la,b9,rfl,a6,a4⟩
      have H3:Hid (Below w2.heap.size w2 w3/\Row w3 1 la l1.length b9 (natC l1)):=⟨a4,Row.of_own a6⟩
      have k5:=z8 a6
      clear a6 a4 g1 c0 a8 a9 aa t8 t9 ta
      obtain⟨c0,a8,a9,aa,t8,t9,ta⟩:=HT.out w3 H3.out.1
      by_cases k7:S.tk<x
      ·have i0:(S.tk:Int)<(x:Int):=by omega
       go_wp2_with fail
       refine(f1.out _).mono ?_
       rintro e w4 ⟨lb,l0,rfl,a7,f4⟩
       have H4:Hid (Below w2.heap.size w2 w4/\Row w4 1 la l1.length b9 (natC l1)/\Row w4 1 lb l2.length l0 (natC l2)):=⟨qd H3.out.1 f4,H3.out.2.below f4,Row.of_own a7⟩
       have m1:=z8 a7
       clear a7 f4 f1 c0 a8 a9 aa t8 t9 ta H3
       go_wp2_with fail
       refine(a1.out _ H4.out.1).mono ?_
       rintro e U ⟨T,pA,qA,rfl,M,k,j⟩
       have v:Hid (IsL (S.tk+1) (Q1 S n (x:Int)) T/\Row U 1 pA T.length qA (natC T)/\Below w4.heap.size w4 U/\Below w2.heap.size w2 U):=⟨M,Row.of_own k,j,qd H4.out.1 j⟩
       have a5:=z8 k
       clear M k j a1
       go_wp2_with fail
       refine(yl (by omega) v.out.1 f2.out.1 v.out.2.1 ((H4.out.2.1).below v.out.2.2.1)).mono ?_
       rintro e VB ⟨rfl,f⟩
       have P:Hid (Below w4.heap.size w4 VB/\Below w2.heap.size w2 VB):=⟨qd v.out.2.2.1 f,qd v.out.2.2.2 f⟩
       clear f v a5
       go_wp2_with fail
       refine(a2.out _ P.out.2).mono ?_
       rintro e Y ⟨lC,pC,qC,rfl,R,D,C⟩
       have a:Hid (IsL (S.tk+1) (Q2 S n (x:Int)) lC/\Row Y 1 pC lC.length qC (natC lC)/\Below w4.heap.size w4 Y/\Below w2.heap.size w2 Y):=⟨R,Row.of_own D,qd P.out.1 C,qd P.out.2 C⟩
       have f6:=z8 D
       clear R D C a2 P
       go_wp2_with fail
       refine(yl (by omega) a.out.1 (f2.out.2 k7) a.out.2.1 ((H4.out.2.2).below a.out.2.2.1)).mono ?_
       rintro e VD ⟨rfl,K⟩
       have HF:Hid (RGT w VD h S n s I O):=J.out.step (qd a.out.2.2.2 K)
       clear K a J
       go_wp2_with fail
       go_roundg ((n:Int)+1 - ((x:Int)+1)).toNat
       case measure=>omega
       case rel=>exact⟨(x:Int)+1,by simp,by omega,by omega,Nat.le_refl _,HF⟩
      ·have i0:¬(S.tk:Int)<(x:Int):=by omega
       clear f1 a8 a9 aa t8 t9 ta
       go_wp2_with fail
       refine(a1.out _ H3.out.1).mono ?_
       rintro e U ⟨T,pA,qA,rfl,M,k,j⟩
       have v:Hid (IsL (S.tk+1) (Q1 S n (x:Int)) T/\Row U 1 pA T.length qA (natC T)/\Below w3.heap.size w3 U/\Below w2.heap.size w2 U):=⟨M,Row.of_own k,j,qd H3.out.1 j⟩
       have a5:=z8 k
       clear M k j a1
       go_wp2_with fail
       refine(yl (by omega) v.out.1 f2.out.1 v.out.2.1 ((H3.out.2).below v.out.2.2.1)).mono ?_
       rintro e VB ⟨rfl,f⟩
       have P:Hid (Below w3.heap.size w3 VB/\Below w2.heap.size w2 VB):=⟨qd v.out.2.2.1 f,qd v.out.2.2.2 f⟩
       clear f v a5
       go_wp2_with fail
       refine(a2.out _ P.out.2).mono ?_
       rintro e Y ⟨lC,pC,qC,rfl,R,D,C⟩
       have a:Hid (IsL (S.tk+1) (Q2 S n (x:Int)) lC/\Row Y 1 pC lC.length qC (natC lC)/\Below w3.heap.size w3 Y/\Below w2.heap.size w2 Y):=⟨R,Row.of_own D,qd P.out.1 C,qd P.out.2 C⟩
       have f6:=z8 D
       clear R D C a2 P
       go_wp2_with fail
       refine(yl (by omega) a.out.1 (uad (fun t _ l=>by obtain⟨y,h1,h2,-⟩:=l;omega):IsL (S.tk+1) (Q2 S n (x:Int)) []) a.out.2.1 ((ual w3).below a.out.2.2.1)).mono ?_
       rintro e VD ⟨rfl,K⟩
       have HF:Hid (RGT w VD h S n s I O):=J.out.step (qd a.out.2.2.2 K)
       clear K a J
       go_wp2_with fail
       go_roundg ((n:Int)+1 - ((x:Int)+1)).toNat
       case measure=>omega
       case rel=>exact⟨(x:Int)+1,by simp,by omega,by omega,Nat.le_refl _,HF⟩
     ·have k0:=d5.out X
      subst k0
      have b0:Hid (¬(0<=i/\i<(n:Int))):=X
      clear d4 d5
      by_cases k1:0<=i
      ·have l4:¬i<(n:Int):=fun e=>X ⟨k1,e⟩
       clear X
       go_wp2_with fail
       refine(a0.out wr (Below.refl _ _)).mono ?_
       rintro e w2 ⟨rfl,rfl⟩
       clear a0
       go_wp2_with fail
       refine(a1.out _ (Below.refl _ _)).mono ?_
       rintro e U ⟨T,pA,qA,rfl,M,k,j⟩
       have v:Hid (IsL (S.tk+1) (Q1 S n i) T/\Row U 1 pA T.length qA (natC T)/\Below w2.heap.size w2 U/\Below w2.heap.size w2 U):=⟨M,Row.of_own k,j,qd (Below.refl _ _) j⟩
       have a5:=z8 k
       clear M k j a1
       go_wp2_with fail
       refine(yl (by omega) v.out.1 (uad (fun t _ l=>by obtain⟨y,h1,h2,-⟩:=l;exact b0.out ⟨by omega,by omega⟩):IsL (S.tk+1) (Q1 S n i) []) v.out.2.1 ((ual w2).below v.out.2.2.1)).mono ?_
       rintro e VB ⟨rfl,f⟩
       have P:Hid (Below w2.heap.size w2 VB/\Below w2.heap.size w2 VB):=⟨qd v.out.2.2.1 f,qd v.out.2.2.2 f⟩
       clear f v a5
       go_wp2_with fail
       refine(a2.out _ P.out.2).mono ?_
       rintro e Y ⟨lC,pC,qC,rfl,R,D,C⟩
       have a:Hid (IsL (S.tk+1) (Q2 S n i) lC/\Row Y 1 pC lC.length qC (natC lC)/\Below w2.heap.size w2 Y/\Below w2.heap.size w2 Y):=⟨R,Row.of_own D,qd P.out.1 C,qd P.out.2 C⟩
       have f6:=z8 D
       clear R D C a2 P
       go_wp2_with fail
       refine(yl (by omega) a.out.1 (uad (fun t _ l=>by obtain⟨y,h1,h2,h3,-⟩:=l;exact b0.out ⟨by omega,by omega⟩):IsL (S.tk+1) (Q2 S n i) []) a.out.2.1 ((ual w2).below a.out.2.2.1)).mono ?_
       rintro e VD ⟨rfl,K⟩
       have HF:Hid (RGT w VD h S n s I O):=J.out.step (qd a.out.2.2.2 K)
       clear K a J
       go_wp2_with fail
       go_roundg ((n:Int)+1 - (i+1)).toNat
       case measure=>omega
       case rel=>exact⟨i+1,by simp,by omega,by omega,Nat.le_refl _,HF⟩
      ·clear X
       go_wp2_with fail
       refine(a0.out wr (Below.refl _ _)).mono ?_
       rintro e w2 ⟨rfl,rfl⟩
       clear a0
       go_wp2_with fail
       refine(a1.out _ (Below.refl _ _)).mono ?_
       rintro e U ⟨T,pA,qA,rfl,M,k,j⟩
       have v:Hid (IsL (S.tk+1) (Q1 S n i) T/\Row U 1 pA T.length qA (natC T)/\Below w2.heap.size w2 U/\Below w2.heap.size w2 U):=⟨M,Row.of_own k,j,qd (Below.refl _ _) j⟩
       have a5:=z8 k
       clear M k j a1
       go_wp2_with fail
       refine(yl (by omega) v.out.1 (uad (fun t _ l=>by obtain⟨y,h1,h2,-⟩:=l;exact b0.out ⟨by omega,by omega⟩):IsL (S.tk+1) (Q1 S n i) []) v.out.2.1 ((ual w2).below v.out.2.2.1)).mono ?_
       rintro e VB ⟨rfl,f⟩
       have P:Hid (Below w2.heap.size w2 VB/\Below w2.heap.size w2 VB):=⟨qd v.out.2.2.1 f,qd v.out.2.2.2 f⟩
       clear f v a5
       go_wp2_with fail
       refine(a2.out _ P.out.2).mono ?_
       rintro e Y ⟨lC,pC,qC,rfl,R,D,C⟩
       have a:Hid (IsL (S.tk+1) (Q2 S n i) lC/\Row Y 1 pC lC.length qC (natC lC)/\Below w2.heap.size w2 Y/\Below w2.heap.size w2 Y):=⟨R,Row.of_own D,qd P.out.1 C,qd P.out.2 C⟩
       have f6:=z8 D
       clear R D C a2 P
       go_wp2_with fail
       refine(yl (by omega) a.out.1 (uad (fun t _ l=>by obtain⟨y,h1,h2,h3,-⟩:=l;exact b0.out ⟨by omega,by omega⟩):IsL (S.tk+1) (Q2 S n i) []) a.out.2.1 ((ual w2).below a.out.2.2.1)).mono ?_
       rintro e VD ⟨rfl,K⟩
       have HF:Hid (RGT w VD h S n s I O):=J.out.step (qd a.out.2.2.2 K)
       clear K a J
       go_wp2_with fail
       go_roundg ((n:Int)+1 - (i+1)).toNat
       case measure=>omega
       case rel=>exact⟨i+1,by simp,by omega,by omega,Nat.le_refl _,HF⟩
    ·have HF:Hid (RGT w wr h S n s I O):=J
     have d0:(n:Int)<i:=by omega
     clear J k2 k3 hg
     go_wp2_with fail
     go_meet
     exact HF
  case rest =>
   obtain⟨w5,m4⟩:∃w5,w5=wc:=⟨_,rfl⟩
   subst wc
   have H5:Hid (RGT w w5 h S n s I O):=hcut
   clear hcut H1
   have d3:Hid (∃zs,AQ8 w5 w5 S n 0 none 0 zs):=⟨[],Below.refl _ _,World.ownsRow_nil _ _ _ _,rfl,fun z hz=>(by cases hz)⟩
   go_upto_block 2 with fail
   go_cut [14] (fun s14 wd=>∃(i:Nat) (sa:Option Addr) (sc:Nat),s14=.slice sa i sc/\i<=5/\Hid (∃zs,AQ8 w5 wd S n i sa sc zs))
   case first =>
    go_wp2_with fail
    go_loopg [14,15] 5 (fun kx s14 s15 wr=>∃(i:Nat) (sa:Option Addr) (sc:Nat),s14=.slice sa i sc/\s15=.int .i64 i/\i<=5/\5 - i<=kx/\Hid (∃zs,AQ8 w5 wr S n i sa sc zs))
    case atStart=>exact⟨0,none,0,rfl,rfl,by omega,by omega,d3⟩
    case round =>
     obtain⟨i,sa,sc,rfl,rfl,hi,hg,J⟩:=hrel
     clear d3
     by_cases g7:i<ln
     ·have d0:(i:Int)<(ln:Int):=by omega
      by_cases h5:i<5
      ·have i6:(i:Int)<5:=by omega
       obtain⟨zs,l⟩:=J.out
       obtain⟨b,o,rfl,cz⟩:=(HX.out.2.2.1.below (qd H5.out.1 l.bel)).get i g7
       generalize L.getD i 0=z at cz
       obtain⟨d,hd⟩:∃d:Nat,(n:Int) - 1=(d:Int):=⟨n - 1,by omega⟩
       have b3:(0:Int)<(d:Int):=by have:=HX.out.1.wf.st;have:=HX.out.1.nn;omega
       have c8:((d:Int) == 0)=false:=by rw[beq_eq_false_iff_ne];omega
       have hr:=uan z (d:Int) b3
       obtain⟨r,b8⟩:∃r,z.tmod (d:Int)=r:=⟨_,rfl⟩
       rw[b8]at hr
       obtain⟨e1,g3⟩:∃e1,r+(n:Int) - 1=e1:=⟨_,rfl⟩
       have f7:0<=e1.tmod (d:Int):=Int.tmod_nonneg _ (by omega)
       have a7:=uan e1 (d:Int) b3
       obtain⟨q,g8⟩:∃q:Nat,e1.tmod (d:Int)=(q:Int):=⟨(e1.tmod (d:Int)).toNat,by omega⟩
       have k6:q<d:=by omega
       obtain⟨h4,h6⟩:=hr
       have l8:d<=300:=by omega
       have l9:q+1<n:=by omega
       have i8:-700<=e1/\e1<=700:=by omega
       obtain⟨g4,g5⟩:=i8
       have d1:-301<=r:=by omega
       have d2:r<=301:=by omega
       clear a7 f7
       obtain⟨c0,-⟩:=sbox (qf l.bel H5.out.2.1)
       have g6:=z8 l.own
       by_cases g9:q<S.tk
       ·have h0:¬(S.tk:Int)<=(q:Int):=by omega
        obtain⟨g,c,W',b2,ho,-,hb⟩:=ql7 l.own l.bel.size (by omega) q
        have HF:Hid (∃zs,AQ8 w5 W' S n (i+1) (some ⟨g,0,none⟩) c zs):=⟨_,l.more q hb ho ⟨by omega,by omega⟩⟩
        clear ho hb l J g9
        go_wp2_with(at_builtin;refine Lib.wpList_append_run _ rfl _ _ _ _ rfl _ _ rfl rfl _ _ b2 ?_)
        go_roundg (5 - (i+1))
        case measure=>omega
        case rel=>exact⟨i+1,_,_,rfl,by simp,by omega,Nat.le_refl _,HF⟩
       ·have h0:(S.tk:Int)<=(q:Int):=by omega
        obtain⟨g,c,W',b2,ho,-,hb⟩:=ql7 l.own l.bel.size (by omega) (q+1)
        have ey:((q+1:Nat):Int)=(q:Int)+1:=by omega
        rw[ey]at b2
        have HF:Hid (∃zs,AQ8 w5 W' S n (i+1) (some ⟨g,0,none⟩) c zs):=⟨_,l.more (q+1) hb ho ⟨by omega,by omega⟩⟩
        clear ho hb l J g9 ey
        go_wp2_with(at_builtin;refine Lib.wpList_append_run _ rfl _ _ _ _ rfl _ _ rfl rfl _ _ b2 ?_)
        go_roundg (5 - (i+1))
        case measure=>omega
        case rel=>exact⟨i+1,_,_,rfl,by simp,by omega,Nat.le_refl _,HF⟩
      ·have i6:¬(i:Int)<5:=by omega
       go_wp2_with fail
       go_meet
       exact⟨i,sa,sc,rfl,hi,J⟩
     ·have d0:¬(i:Int)<(ln:Int):=by omega
      go_wp2_with fail
      go_meet
      exact⟨i,sa,sc,rfl,hi,J⟩
   case rest =>
    obtain⟨m,sa,sc,rfl,hm,J⟩:=hcut
    obtain⟨w6,m5⟩:∃w6,w6=wc:=⟨_,rfl⟩
    subst wc
    clear d3
    obtain⟨zs,l⟩:=J.out
    have g6:=z8 l.own
    have HQ:Hid (AQ8 w5 w6 S n m sa sc zs):=l
    clear l J
    obtain⟨r,b8⟩:∃r,bh.tmod ((S.tk:Int)+1)=r:=⟨_,rfl⟩
    have b3:(0:Int)<(S.tk:Int)+1:=by omega
    have c8:(((S.tk:Int)+1) == 0)=false:=by rw[beq_eq_false_iff_ne];omega
    have hr:=uan bh ((S.tk:Int)+1) b3
    rw[b8]at hr
    obtain⟨h4,h6⟩:=hr
    obtain⟨e1,g3⟩:∃e1,r+(S.tk:Int)+1=e1:=⟨_,rfl⟩
    have f7:0<=e1.tmod ((S.tk:Int)+1):=Int.tmod_nonneg _ (by omega)
    have a7:=uan e1 ((S.tk:Int)+1) b3
    obtain⟨q,g8⟩:∃q:Nat,e1.tmod ((S.tk:Int)+1)=(q:Int):=⟨(e1.tmod ((S.tk:Int)+1)).toNat,by omega⟩
    have k6:q<=S.tk:=by omega
    have g4:-700<=e1:=by omega
    have g5:e1<=700:=by omega
    have d1:-301<=r:=by omega
    have d2:r<=301:=by omega
    clear a7 f7
    have g0:Hid (∀q,RGT w (w6.drewN q) h S n s I O/\Row (w6.drewN q) 1 sa m sc (natC zs)):=fun q=>⟨(H5.out.step HQ.out.bel).step (yh (Below.refl _ _) q),(Row.of_own HQ.out.own).below (yh (Below.refl _ _) q)⟩
    obtain⟨c0,-⟩:=sbox (H5.out.step HQ.out.bel).2.1
    have mx:=qay
    go_upto_region 24 with fail
    go_quiet (fail)
    have a3:=g0.out nq
    clear g0 c0 g3 b8 g8 h4 h6 g4 g5 d1 d2 b3 c8
    generalize w6.drewN nq=w7 at a3 ⊢
    have a3:Hid (RGT w w7 h S n s I O/\Row w7 1 sa m sc (natC zs)):=a3
    have HZ:Hid (zs.length=m/\∀z∈zs,z<n/\z≠S.tk):=⟨HQ.out.len,HQ.out.rng⟩
    have f9:Hid (Calls Tryz.prog 19 #[.pointer (some ⟨I,0,none⟩),.slice sa m sc,.int .i64 (q:Int)] w7 fun e W'=>Told w7 W' (S.tk+1) (fun t=>FstL S zs t\/((∀z∈zs,Nul S z)/\(t:Int)=(q:Int))) e):=by
     obtain⟨-,-,⟨B,p,E,WL,N⟩,-⟩:=a3.out.1
     exact qck w7 B I n p E S WL N zs sa m sc HZ.out.1 (by omega) a3.out.2 HZ.out.2 (q:Int) (.inr ⟨by omega,by omega⟩)
    obtain⟨u,HU⟩:∃u:Nat,Hid ((∀V:World,Below w7.heap.size w7 V->Calls Tryz.prog 37 #[.pointer (some ⟨O,0,none⟩),.slice sa m sc,.int .i64 (q:Int)] V fun e H=>e=.returned (.int .u64 (u:Int))/\Below V.heap.size V H)/\u<2 ^ 64/\IsL (S.tk+1) (fun t=>FstL S zs t\/((∀z∈zs,Nul S z)/\(t:Int)=(q:Int))) (upTo (fun t=>u.testBit t) 64)):=by
     obtain⟨-,-,-,B,p,E,F,G,hr,ht⟩:=a3.out.1
     have l3:=HX.out.2.1
     refine⟨_,fun V Q=>ub5 V B O p h S n E F G (hr.below Q) ht.flt zs sa m sc HZ.out.1 (by omega) (a3.out.2.below Q) (fun z hz=>(HZ.out.2 z hz).1) q (by omega),ucz ht.flt zs (by omega),uax (by omega) (uco ht zs q) (fun t l=>?_)⟩
     rcases l with l | ⟨-,l⟩
     ·have:=l.lt;omega
     ·omega
    obtain⟨lu,d9⟩:∃lu,Hid (upTo (fun t=>u.testBit t) 64=lu):=⟨_,rfl⟩
    have f8:Hid (∀V:World,Calls Tryz.prog 36 #[.int .u64 (u:Int)] V fun e H=>∃la lc,e=.returned (.slice la lu.length lc)/\H.ownsRow V.heap.size 3 1 (.slice la lu.length lc) lu.length (natC lu)/\Below V.heap.size V H):=fun V=>by rw[<-d9.out];exact uat V u HU.out.2.1
    have i5:Hid (IsL (S.tk+1) (fun t=>FstL S zs t\/((∀z∈zs,Nul S z)/\(t:Int)=(q:Int))) lu):=by rw[<-d9.out];exact HU.out.2.2
    have g2:Hid (∀V:World,Below w7.heap.size w7 V->Calls Tryz.prog 37 #[.pointer (some ⟨O,0,none⟩),.slice sa m sc,.int .i64 (q:Int)] V fun e H=>e=.returned (.int .u64 (u:Int))/\Below V.heap.size V H):=HU.out.1
    clear HU d9
    go_wp2_with fail
    refine f9.out.mono ?_
    rintro e U ⟨T,pA,qA,rfl,M,k,j⟩
    have v:Hid (IsL (S.tk+1) (fun t=>FstL S zs t\/((∀z∈zs,Nul S z)/\(t:Int)=(q:Int))) T/\Row U 1 pA T.length qA (natC T)/\Below w7.heap.size w7 U):=⟨M,Row.of_own k,j⟩
    have a5:=z8 k
    clear M k j f9
    go_wp2_with fail
    refine(g2.out U v.out.2.2).mono ?_
    rintro e VB ⟨rfl,f⟩
    have P:Hid (Row VB 1 pA T.length qA (natC T)/\Below w7.heap.size w7 VB):=⟨v.out.2.1.below f,qd v.out.2.2 f⟩
    clear f g2
    go_wp2_with fail
    refine(f8.out VB).mono ?_
    rintro e Y ⟨la,b9,rfl,a6,a4⟩
    have HC:Hid (Row Y 1 pA T.length qA (natC T)/\Row Y 1 la lu.length b9 (natC lu)/\Below w7.heap.size w7 Y):=⟨P.out.1.below a4,Row.of_own a6,qd P.out.2 a4⟩
    have k5:=z8 a6
    clear a6 a4 f8 P
    go_wp2_with fail
    refine(yl (by omega) v.out.1 i5.out HC.out.1 HC.out.2.1).mono ?_
    rintro e VD ⟨rfl,K⟩
    have HF:Hid (Below w.heap.size w VD):=qd (qd a3.out.1.1 HC.out.2.2) K
    clear K HC v
    go_wp2_with fail
    go_ret
    exact⟨rfl,HF.out⟩
end Go.Proofs.YtngclmglmhiljaaGreatDoor
namespace Go.Proofs.YtngclmglmhiljaaGreatDoor.All
open Go.RowKit
theorem uc0{G:Gm}{k:Int}(b:OfR G k)(a:k=0):(spK G k).tk<64:=by
 unfold spK
 rw[if_pos a]
 subst a
 obtain⟨-,c,-,-⟩:=qqh b
 have d:G.ts.length<=12:=(qqi c).1
 show G.ts.length<64
 omega
theorem walk(h:Hd)(G:Gm)(O:Option Addr)(Q P:Nat)(L:List Int)(bh:Int)(w:World)(hp:Pow w)(hG:RawG w h G)(hL:RawI w O Q P L):Calls Tryz.prog 3 #[gv h G,.slice O Q P,.int .i64 bh] w fun e r=>e=.returned (.bool true)/\Below w.heap.size w r:=by
 obtain⟨d,f,b,c⟩:=h
 obtain⟨k,hk⟩:=ucq (xp G)
 have X:Hid (OfR (xp G) k):=hk
 have HL:Hid (RawI w O Q P L):=hL
 clear hL
 have i:Below w.heap.size w (w.alloc (.cells #[.slice d G.ts.length f,.string G.s,.int .i64 G.e,.slice b G.rs.length c] 25)):=qb _ _
 have C:(w.alloc (.cells #[.slice d G.ts.length f,.string G.s,.int .i64 G.e,.slice b G.rs.length c] 25)).heap[w.heap.size]?=some (.cells #[.slice d G.ts.length f,.string G.s,.int .i64 G.e,.slice b G.rs.length c] 25 (0,0)):=heap_alloc_new _ _
 have A:Hid (RawG (w.alloc (.cells #[.slice d G.ts.length f,.string G.s,.int .i64 G.e,.slice b G.rs.length c] 25)) ⟨d,f,b,c⟩ G/\Pow (w.alloc (.cells #[.slice d G.ts.length f,.string G.s,.int .i64 G.e,.slice b G.rs.length c] 25))):=⟨hG.below i,hp.below i⟩
 clear hG hp hk
 unfold gv
 simp only
 obtain⟨E,H⟩:∃E,Hid (G.ts.length=E):=⟨_,rfl⟩
 obtain⟨D,F⟩:∃D,Hid (G.rs.length=D):=⟨_,rfl⟩
 rw[H.out]at i C A ⊢
 rw[F.out]at i C A ⊢
 go_enter Tryz.func3,Tryz.ntmps3
 go_upto_region 1 with fail
 generalize w.alloc (.cells #[.slice d E f,.string G.s,.int .i64 G.e,.slice b D c] 25)=W1 at i C A ⊢
 obtain⟨U,Y⟩:∃U,Hid (U=w.heap.size):=⟨_,rfl⟩
 rw[<-Y.out]at C ⊢
 have H1:Hid (Below w.heap.size w W1/\W1.heap[U]?=some (.cells #[.slice d E f,.string G.s,.int .i64 G.e,.slice b D c] 25 (0,0))):=⟨i,C⟩
 clear i C
 go_wp2_with fail
 refine(qku W1 A.out.2).mono ?_
 rintro e u ⟨rfl,z⟩
 have l:Hid (RawG u ⟨d,f,b,c⟩ G/\Below w.heap.size w u/\u.heap[U]?=some (.cells #[.slice d E f,.string G.s,.int .i64 G.e,.slice b D c] 25 (0,0))):=⟨A.out.1.below z,qd H1.out.1 z,qf z H1.out.2⟩
 clear z A H1
 obtain⟨p0,p1,p2,p3⟩:=box4 l.out.2.2
 have t:Hid (Calls Tryz.prog 11 #[.agg #[.slice d E f,.string G.s,.int .i64 G.e,.slice b D c]] u fun e r=>∃I qs,e=.returned (gv I (xp G))/\OwnG r u.heap.size I (xp G) qs/\Below u.heap.size u r):=by
  have:=ubp G ⟨d,f,b,c⟩ u l.out.1
  unfold gv at this
  simp only at this
  rw[H.out,F.out]at this
  exact this
 go_wp2_with fail
 refine t.out.mono ?_
 rintro e B ⟨⟨p,q,m,o⟩,qs,rfl,ho,z⟩
 have V:Hid (IsG B ⟨p,q,m,o⟩ (xp G)/\Below w.heap.size w B):=⟨ho.isG (ub2 G),qd l.out.2.1 z⟩
 clear ho z t l p0 p1 p2 p3
 have j:Hid (Calls Tryz.prog 10 #[gv ⟨p,q,m,o⟩ (xp G)] B fun e r=>∃I,e=.returned (.tuple #[.agg (sC I (spK (xp G) k)),.int .i64 k])/\IsSp r I (spK (xp G) k)/\Below B.heap.size B r):=qmg (xp G) ⟨p,q,m,o⟩ B k V.out.1 X.out
 have x:Hid (k=0->∃n,NSp (spK (xp G) k) n):=ucv X.out
 have y:Hid (k=0->(spK (xp G) k).tk<64):=uc0 X.out
 generalize spK (xp G) k=S at j x y
 generalize gv ⟨p,q,m,o⟩ (xp G)=gg at j ⊢
 go_wp2_with fail
 refine j.out.mono ?_
 rintro e g ⟨a,rfl,N,J⟩
 have i:Below g.heap.size g (g.alloc (.cells (sC a S) 31)):=qb _ _
 have v:Hid (Below w.heap.size w (g.alloc (.cells (sC a S) 31))/\IsSp (g.alloc (.cells (sC a S) 31)) a S/\(g.alloc (.cells (sC a S) 31)).heap[g.heap.size]?=some (.cells (sC a S) 31 (0,0))):=⟨qd (qd V.out.2 J) i,N.below i,heap_alloc_new _ _⟩
 clear N J i V j
 unfold sC
 go_upto_region 5 with fail
 have e4:g.alloc (.cells #[.int .i64 (S.tk:Int),.int .i64 (S.nt:Int),.int .i64 (S.st:Int),.int .i64 S.ex,.slice a.na S.nm.length a.nc,.slice a.la S.lv.length a.lc,.slice a.aa S.az.length a.ac,.slice a.ra S.rs.length a.rc] 31)=g.alloc (.cells (sC a S) 31):=rfl
 rw[e4]
 generalize g.alloc (.cells (sC a S) 31)=R at v ⊢
 generalize g.heap.size=b1 at v ⊢
 clear e4
 by_cases T:k=0
 ·obtain⟨n,M⟩:=x.out T
  have Z:Hid (Calls Tryz.prog 12 #[.agg #[.int .i64 (S.tk:Int),.int .i64 (S.nt:Int),.int .i64 (S.st:Int),.int .i64 S.ex,.slice a.na S.nm.length a.nc,.slice a.la S.lv.length a.lc,.slice a.aa S.az.length a.ac,.slice a.ra S.rs.length a.rc],.slice O Q P,.int .i64 bh] R fun e r=>e=.returned (.bool true)/\Below R.heap.size R r):=ubh R a S n M (y.out T) v.out.2.1 O Q P L (HL.out.below v.out.1) bh
  subst T
  clear M x y
  obtain⟨c0,c1,c2,c3,c4,c5,c6,c7⟩:=sbox v.out.2.2
  go_wp2_with fail
  refine Z.out.mono ?_
  rintro e V6 ⟨rfl,K⟩
  have HF:Hid (Below w.heap.size w V6):=qd v.out.1 K
  clear K
  go_wp2_with fail
  go_ret
  exact⟨rfl,HF.out⟩
 ·have a0:(k != 0)=true:=by rw[bne_iff_ne];exact T
  go_wp2_with fail
  go_ret
  exact⟨rfl,v.out.1⟩
end Go.Proofs.YtngclmglmhiljaaGreatDoor.All
namespace Go.Proofs.YtngclmglmhiljaaGreatDoor.All
open Go.ChangeShapes Go.WideShapes Go.ChangeAt Go.RowKit
open Go.ChangeMaps (open_string shut_string)

theorem lifted(os : Os)(c : os.Started)(H : Type)(enc : TypeId × Value -> H):
    ReturnsInHanded {} Tryz.checked os 3 .any (fun w args => (Rows.firstAllSpec.pre enc Tryz.prog Tryz.f3 [] false w args /\ laidMetH Tryz.prog qg3 w) /\ sizedMet enc Tryz.prog Tryz.f3 (OpenSpec.ofChange Rows.firstAllSpec) false w args) (Rows.firstAllSpec.post enc Tryz.prog Tryz.f3 false true false false) := by
  refine returnsInHanded_of_change_and (C := Tryz.checked) (X := fun w _ => laidMetH Tryz.prog qg3 w) (fun _ _ _ Q h => h.of_heap Q) own c (by kernel_rfl) Tryz.func3
    (ChangeSpec.witness_shaped (enc := enc) (C := Tryz.checked) (os := os) (X := fun w _ => laidMetH Tryz.prog qg3 w) false (World.doorLaid Tryz.prog 136 os) #[.agg #[.slice none 0 0, .string ⟨#[]⟩, .int .i64 0, .slice none 0 0], .slice none 0 0, .int .i64 0] 8 rfl (World.shaped_of_RefB (by kernel_rfl) (by kernel_rfl)) (by kernel_rfl) (by kernel_rfl) (by kernel_rfl) (qqv os _)) ?_
  intro W d args I gs l b z _ _ N _
  have a : ∀(j : Nat) t v, Tryz.f3.params[j]? = some t -> args[j]? = some v -> Value.okWide Tryz.prog W .any d t v := b
  have g := z
  obtain⟨p, q, f, O, rfl, _, _⟩ := z
  have y : DataW.TrodAll enc Tryz.prog W 0 (fun _ => true) true Tryz.f3.params.toList args.toList I p := f
  rw[Tryz.params3]at y a
  obtain⟨v0, Z, d0, J, S, q0, _, rfl, rfl, s, U⟩ := trodAll_cons y
  obtain⟨v1, a0, d1, K, T, q1, rfl, rfl, rfl, u, V⟩ := trodAll_cons U
  obtain⟨v2, a1, d2, L, p2, q2, rfl, rfl, rfl, M, Y⟩ := trodAll_cons V
  obtain⟨rfl, rfl, rfl⟩ := trodAll_nil Y
  obtain rfl : args = #[v0, v1, v2] := by cases args; simp_all
  obtain⟨rfl, rfl⟩ := trodVars_none O
  have A := s
  have o : ∀x ∈ S, x.block < W.heap.size := by obtain⟨m, n⟩ := A; exact DataW.trod_lt m _ _ _ n
  obtain⟨F, E, rfl, i⟩ := ub1 (a 0 25 v0 rfl rfl) s
  have B := u
  have r : ∀x ∈ T, x.block < W.heap.size := by obtain⟨m, n⟩ := B; exact DataW.trod_lt m _ _ _ n
  obtain⟨D, R, c1, rfl⟩ := okWide_slice Tryz.underlying26 (a 1 26 v1 rfl rfl)
  obtain⟨z1, k⟩ := ub7 u
  obtain⟨G, rfl, rfl, rfl, w2⟩ := open_int Tryz.underlying3 (a 2 3 v2 rfl rfl) M
  clear f b
  simp only[List.append_nil]at g
  refine(walk F E D R c1 z1 G W (qlu N) i k ).mono fun e W' ⟨P, bel⟩ => ?_
  subst P
  exact⟨_, rfl, _, _, _, [], _, [], g, trodAll_mk1 (shut_bool Tryz.underlying4 _), (trodAll_cons_mk (Below.trod qo7 (by kernel_rfl) (of_decide_eq_true (by kernel_rfl)) A bel o) (trodAll_cons_mk (Below.trod qo7 (by kernel_rfl) (of_decide_eq_true (by kernel_rfl)) B bel r) (trodAll_cons_mk (shut_int Tryz.underlying3 w2) trodAll_mk0))), rfl, bel.frame _, fun h => by cases h⟩

theorem over: Rows.firstAllRow.holds Tryz.pinned (OpenSpec.ofChange Rows.firstAllSpec) :=
  OpenClaim.holds_of_wide 3 Tryz.f3 rfl rfl rfl rfl rfl rfl rfl ⟨rfl, rfl, rfl, rfl, rfl⟩ rfl rfl rfl rfl rfl (by kernel_rfl) Tryz.func3 (by kernel_rfl)
    (of_decide_eq_true (by kernel_rfl)) (by unfold Func.isWrapper; first | (rw[if_pos (by decide +kernel)]; kernel_rfl) | (rw[if_neg (by decide +kernel)]; exact⟨rfl, rfl⟩))
    (fun os a H enc _ => lifted os a H enc)

theorem card: Claim7.holds Tryz.pinned (.plain (OpenSpec.ofChange Rows.firstAllSpec)) Rows.firstAllCard :=
  Claim7.holds_tied_plain_at .later [] [.data, .data, .data, .sentinel, .sentinel] true (true, "452abb9618eebf26fc9e01cab527c591e73f20c162a4812a8340780f19967501") true
    over (fun _ h => by cases h) (by kernel_rfl) (fun _ h => by cases h) firstAll_row_tie rfl ⟨rfl, rfl⟩ (by kernel_rfl) rfl
    (fun f d g b => by
      obtain rfl : f = 3 := Option.some.inj ((show Tryz.prog.funcNamed "donatus/donatuslaw8.FirstAll" = some 3 by kernel_rfl).symm.trans g) |>.symm
      obtain rfl : d = Tryz.f3 := (Option.some.inj (Tryz.func3.symm.trans b)).symm
      exact⟨by kernel_rfl, fun j t c => by
        rw[Tryz.params3]at c
        have i : t ∈ ([25, 26, 3] : List TypeId) := by simpa using Array.mem_of_getElem? c
        have a : (([25, 26, 3] : List TypeId).all fun u => !Tryz.prog.wantsStandIn u) = true := by kernel_rfl
        exact(show Tryz.prog.wantsStandIn t = false by simpa using List.all_eq_true.1 a t i)⟩)
    (by kernel_rfl)

end Go.Proofs.YtngclmglmhiljaaGreatDoor.All
namespace Go.Proofs.YtngclmglmhiljaaGreatDoor
theorem firstAll_holds: Rows.FirstAllCardSaid := All.card
#print axioms firstAll_holds
end Go.Proofs.YtngclmglmhiljaaGreatDoor
