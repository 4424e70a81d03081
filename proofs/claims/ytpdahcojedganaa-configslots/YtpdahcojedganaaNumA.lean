/-
  THE WALK over choruslaw0.Num: a number of an error is that number. No condition.
-/
import Derived.Test.YtpdahcojedganaaGround
namespace Go.Proofs.Ytpdahcojedganaa
open Go.RowKit

set_option maxHeartbeats 400000 in
theorem lawNum (x : Int) (w : World) : Calls Try.prog 9 #[.int .i64 x] w fun e w' => e = .returned (.int .i64 x) ∧ w = w' := by
  go_enter Try.func9, Try.ntmps9
  go_wp2
  go_ret
  exact ⟨rfl, rfl⟩

end Go.Proofs.Ytpdahcojedganaa
