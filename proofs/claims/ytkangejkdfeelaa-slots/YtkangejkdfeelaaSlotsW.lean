/-
  THE WALK over choruslaw9.Slots: it answers true, for every slot and every two numbers, and turns nothing that was there.
-/
import Derived.Test.YtkangejkdfeelaaSlAwake
import Derived.Test.YtkangejkdfeelaaRefSl
namespace Go.Proofs.Ytkangejkdfeelaa
open Go.RowKit

set_option maxHeartbeats 1000000 in
theorem lawSlots (w : World) (c r a t b p n : Int) : Calls Try.prog 3 #[slotV c r a t b, .int .i64 p, .int .i64 n] w fun e w' => e = .returned (.bool true) ∧ Le w w' := by
  have h1 := fun w => slotBit p n w
  have h2 := fun w => refBit p n w
  have h3 := fun w => slotAlive c r a t b p n w
  have h4 := fun w => refAlive c r a t b p n w
  generalize (bitS p n).1 = x1 at h1 h2
  generalize (bitS p n).2 = x2 at h1 h2
  generalize (aliveS b p n).1 = x3 at h3 h4
  generalize (aliveS b p n).2 = x4 at h3 h4
  have hb := Box.new w #[.int .i64 c, .int .i64 r, .int .i64 a, .int .i64 t, .int .i64 b] 25
  have hl := Le.alloc w (.cells #[.int .i64 c, .int .i64 r, .int .i64 a, .int .i64 t, .int .i64 b] 25)
  go_enter Try.func3, Try.ntmps3
  go_wp2_with fail
  refine (h1 _).mono ?_
  rintro e _ ⟨rfl, rfl⟩
  go_wp2_with fail
  refine (h2 _).mono ?_
  rintro e _ ⟨rfl, rfl⟩
  go_wp2_with fail
  refine (h3 _).mono ?_
  rintro e w1 ⟨rfl, l1⟩
  obtain ⟨y0, y1, y2, y3, y4⟩ := (hb.le l1).slot
  go_wp2_with fail
  refine (h4 _).mono ?_
  rintro e w2 ⟨rfl, l2⟩
  go_wp2_with (first | (go_at_call 12; refine (lawNum _ _).mono ?_; rintro e _ ⟨rfl, rfl⟩) | (go_at_call 13; refine (lawAwake9 _).mono ?_; rintro e w3 ⟨rfl, l3⟩))
  go_ret
  exact ⟨ret_bool (by simp), ((hl.trans l1).trans l2).trans l3⟩

end Go.Proofs.Ytkangejkdfeelaa
