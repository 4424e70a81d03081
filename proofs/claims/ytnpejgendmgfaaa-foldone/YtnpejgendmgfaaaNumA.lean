/-
  THE WALK over choruslaw0.Num: a number of an error is that number. No condition.
-/
import Derived.Test.YtnpejgendmgfaaaGround
namespace Go.Proofs.Ytnpejgendmgfaaa
open Go.RowKit

set_option maxHeartbeats 400000 in
theorem lawNum (x : Int) (w : World) : Calls Try.prog 15 #[.int .i64 x] w fun e w' => e = .returned (.int .i64 x) ∧ w = w' := by
  go_enter Try.func15, Try.ntmps15
  go_wp2
  go_ret
  exact ⟨rfl, rfl⟩

end Go.Proofs.Ytnpejgendmgfaaa
