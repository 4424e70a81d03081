/-
  THE WALK over choruslaw0.Num: a number of an error is that number. No condition.
-/
import Derived.Test.YtphphppohagniaaGround
namespace Go.Proofs.Ytphphppohagniaa
open Go.RowKit

set_option maxHeartbeats 400000 in
theorem lawNum (x : Int) (w : World) : Calls Try.prog 11 #[.int .i64 x] w fun e w' => e = .returned (.int .i64 x) ∧ w = w' := by
  go_enter Try.func11, Try.ntmps11
  go_wp2
  go_ret
  exact ⟨rfl, rfl⟩

end Go.Proofs.Ytphphppohagniaa
