/-
  THE WALK over choruslaw0.Num: a number of an error is that number. No condition.
-/
import Derived.Test.YtgjhbhnfeeleeaaGround
namespace Go.Proofs.Ytgjhbhnfeeleeaa
open Go.RowKit

set_option maxHeartbeats 400000 in
theorem lawNum (x : Int) (w : World) : Calls Try.prog 10 #[.int .i64 x] w fun e w' => e = .returned (.int .i64 x) ∧ w = w' := by
  go_enter Try.func10, Try.ntmps10
  go_wp2
  go_ret
  exact ⟨rfl, rfl⟩

end Go.Proofs.Ytgjhbhnfeeleeaa
