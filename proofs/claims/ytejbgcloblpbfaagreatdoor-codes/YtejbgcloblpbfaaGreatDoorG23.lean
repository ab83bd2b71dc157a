import Derived.Test.YtejbgcloblpbfaaGreatDoorG20
namespace Go.Proofs.YtejbgcloblpbfaaGreatDoor
open Go.RowKit
open K (Nm Ex Do)
theorem V.wfL_get{N:Nat}:∀{l:List Do},V.wfL N l->∀(k:Nat) (h:k<l.length),V.wfD N l[k]
 |d::l,hw,0,_=>by unfold V.wfL at hw;exact hw.1
 |d::l,hw,k+1,h=>by unfold V.wfL at hw;exact V.wfL_get hw.2 k (by simpa using h)
end Go.Proofs.YtejbgcloblpbfaaGreatDoor
