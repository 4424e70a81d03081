/-
  THE WALK over choruslaw9.awake: it answers true and turns nothing that was there. No condition.
-/
import Derived.Test.YtkangejkdfeelaaSlA
namespace Go.Proofs.Ytkangejkdfeelaa
open Go.RowKit

set_option maxHeartbeats 1000000 in
theorem lawAwake9 (w : World) : Calls Try.prog 13 #[] w fun e w' => e = .returned (.bool true) ∧ Le w w' := by
  have b1 := fun w => slotBit 3 4 w
  rw [show bitS 3 4 = (1, 0) by decide] at b1
  have b2 := fun w => slotBit 4 4 w
  rw [show bitS 4 4 = (0, 0) by decide] at b2
  have b3 := fun w => slotAlive 0 0 0 0 1 9 4 w
  rw [show aliveS 1 9 4 = (true, 0) by decide] at b3
  have b4 := fun w => slotBit 3 3 w
  rw [show bitS 3 3 = (0, 900) by decide] at b4
  have b5 := fun w => slotAlive 0 0 0 0 0 (-1) 4 w
  rw [show aliveS 0 (-1) 4 = (false, 900) by decide] at b5
  go_enter Try.func13, Try.ntmps13
  go_wp2_with fail
  refine (b1 _).mono ?_
  rintro e _ ⟨rfl, rfl⟩
  go_wp2_with fail
  refine (b2 _).mono ?_
  rintro e _ ⟨rfl, rfl⟩
  go_wp2_with fail
  refine (b3 _).mono ?_
  rintro e w1 ⟨rfl, l1⟩
  go_wp2_with fail
  refine (b4 _).mono ?_
  rintro e _ ⟨rfl, rfl⟩
  go_wp2_with fail
  refine (b5 _).mono ?_
  rintro e w2 ⟨rfl, l2⟩
  go_wp2_with (go_at_call 12; refine (lawNum _ _).mono ?_; rintro e _ ⟨rfl, rfl⟩)
  go_ret
  exact ⟨rfl, l1.trans l2⟩

end Go.Proofs.Ytkangejkdfeelaa
