/-
  THE WALK over package ring's Publish: what it answers, for every ring, number, operation and thread. Condition: that the slots can be copied.
-/
import Derived.Test.YtgjhbhnfeeleeaaRgF
namespace Go.Proofs.Ytgjhbhnfeeleeaa
open Go.RowKit

theorem pubB_slot {R : Rg} {p c r a t : Int} : pubB R p c r a t = (mayR R && hasB R.h R.t p && slotB ⟨c, r, a, t, bitAt p R.ss.length⟩) := by
  have := bitAt_two (p := p) (n := R.ss.length)
  have e : (decide (bitAt p R.ss.length = 0) || decide (bitAt p R.ss.length = 1)) = true := by simpa using this
  simp only [pubB, slotB, threadB, e, Bool.and_true, Bool.and_assoc]

end Go.Proofs.Ytgjhbhnfeeleeaa
