/-
  THE WALK over choruslaw8.awake: it answers true and turns nothing that was there. No condition.
-/
import Derived.Test.YtphphppohagniaaComB
import Derived.Test.YtphphppohagniaaNumA
namespace Go.Proofs.Ytphphppohagniaa
open Go.RowKit

theorem co1 : bothS 2 St.zero 0 0 1 0 0 2 = (false, 0) := by decide
theorem co2 : bothS 2 St.zero 0 0 1 0 1 2 = (true, 0) := by decide
theorem co3 : bothS 3 St.zero 0 0 0 0 0 0 = (false, 800) := by decide

set_option maxRecDepth 4000 in
set_option maxHeartbeats 1000000 in
theorem lawAwake8 (w : World) : Calls Try.prog 13 #[] w fun e w' => e = .returned (.bool true) ∧ Le w w' := by
  have hl := Le.alloc w (.cells (cells4 fun _ => slZ) 25)
  have hb0 := Box.new w (cells4 fun _ => slZ) 25
  go_enter Try.func13, Try.ntmps13
  go_wp2_with fail
  refine (comBoth 2 stZ St.zero 0 0 1 0 0 2 _ (HasS.zero _) fit_zero).mono ?_
  rw [co1]
  rintro e w1 ⟨rfl, l1⟩
  replace hb0 := hb0.le l1
  replace hl := hl.trans l1
  clear l1
  obtain ⟨y0, y1, y2, y3, _, _, _, _⟩ := hb0.st
  go_wp2_with fail
  refine (comBoth 2 stZ St.zero 0 0 1 0 1 2 _ (HasS.zero _) fit_zero).mono ?_
  rw [co2]
  rintro e w2 ⟨rfl, l2⟩
  replace hb0 := hb0.le l2
  replace hl := hl.trans l2
  clear l2 y0 y1 y2 y3
  obtain ⟨y0, y1, y2, y3, _, _, _, _⟩ := hb0.st
  go_wp2_with fail
  refine (comBoth 3 stZ St.zero 0 0 0 0 0 0 _ (HasS.zero _) fit_zero).mono ?_
  rw [co3]
  rintro e w3 ⟨rfl, l3⟩
  replace hl := hl.trans l3
  clear l3 y0 y1 y2 y3
  go_wp2_with (go_at_call 11; refine (lawNum _ _).mono ?_; rintro e _ ⟨rfl, rfl⟩)
  go_ret
  exact ⟨rfl, hl⟩

end Go.Proofs.Ytphphppohagniaa
