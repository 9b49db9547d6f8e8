/- Texts that the proof of FirstNone stands on beside those. -/
import Derived.Test.YtngclmglmhiljaaGreatDoorOwn15
namespace Go.Proofs.YtngclmglmhiljaaGreatDoor
open Go.RowKit
set_option maxRecDepth 20000
set_option maxHeartbeats 2000000 in
theorem fempty_nil (W:World) (x:Int) :
  Calls Tryz.prog 23 #[.pointer none,.int .i64 x] W fun e w'=>e=.returned (.bool false)∧w'=W:=by
 go_enter Tryz.func23,Tryz.ntmps23
 go_wp2_with fail
 go_ret
 exact ⟨rfl,rfl⟩
end Go.Proofs.YtngclmglmhiljaaGreatDoor
namespace Go.Proofs.YtngclmglmhiljaaGreatDoor
open Go.RowKit
set_option maxRecDepth 20000
theorem fnil19 (W:World) (a:Option Addr) (n c:Nat) (x:Int):Calls Tryz.prog 19 #[.pointer none,.slice a n c,.int .i64 x] W fun e W'=>e=.returned (.slice none 0 0)∧W'=W:=by
 go_enter Tryz.func19,Tryz.ntmps19
 go_wp2_with fail
 go_ret
 exact ⟨rfl,rfl⟩
theorem fnil20 (W:World) (x:Int):Calls Tryz.prog 20 #[.pointer none,.int .i64 x] W fun e W'=>e=.returned (.slice none 0 0)∧Below W.heap.size W W':=by
 go_enter Tryz.func20,Tryz.ntmps20
 go_wp2_with fail
 refine (fnil19 _ _ _ _ _).mono ?_
 rintro e w1 ⟨rfl,rfl⟩
 go_wp2_with fail
 go_ret
 exact ⟨rfl,below_alloc _ _⟩
theorem fnil21 (W:World) (x:Int):Calls Tryz.prog 21 #[.pointer none,.int .i64 x] W fun e W'=>e=.returned (.slice none 0 0)∧W'=W:=by
 go_enter Tryz.func21,Tryz.ntmps21
 go_wp2_with fail
 go_ret
 exact ⟨rfl,rfl⟩
end Go.Proofs.YtngclmglmhiljaaGreatDoor
