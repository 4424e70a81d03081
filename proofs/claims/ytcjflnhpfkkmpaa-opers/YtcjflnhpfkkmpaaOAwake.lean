/-
  THE WALK over choruslaw2.awake: it answers true and turns nothing that was there. No condition.
-/
import Derived.Test.YtcjflnhpfkkmpaaOperB
import Derived.Laws.StructEq
namespace Go.Proofs.Ytcjflnhpfkkmpaa
open Go.RowKit

theorem put127 : putS 1 2 7 = (⟨#[1, 2, 7]⟩, 0) := by decide
theorem put310 : putS 3 1 0 = (⟨#[]⟩, 200) := by decide
theorem get127 : getS ⟨#[1, 2, 7]⟩ = (1, 2, 7, 0) := by decide
theorem getNil : getS ⟨#[]⟩ = (0, 0, 0, 200) := by decide

set_option maxHeartbeats 2000000 in
theorem lawAwake2 (w : World) : Calls Try.prog 15 #[] w fun e w' => e = .returned (.bool true) ∧ Le w w' := by
  have hb := Box.new w #[.int .i64 1, .int .i64 2, .int .i64 7] 23
  have hl := Le.alloc w (.cells #[.int .i64 1, .int .i64 2, .int .i64 7] 23)
  go_enter Try.func15, Try.ntmps15
  go_wp2_with fail
  refine (operPut _ _ _ _).mono ?_
  rw [put127]
  rintro e w1 ⟨rfl, l1⟩
  replace hb := hb.le l1
  replace hl := hl.trans l1
  clear l1
  go_wp2_with fail
  refine (operGet _ _).mono ?_
  rw [get127]
  rintro e w2 ⟨rfl, l2⟩
  replace hb := hb.le l2
  replace hl := hl.trans l2
  clear l2
  have hb2 := Box.new w2 #[.int .i64 1, .int .i64 2, .int .i64 7] 23
  replace hb := hb.le (Le.alloc w2 (.cells #[.int .i64 1, .int .i64 2, .int .i64 7] 23))
  replace hl := hl.trans (Le.alloc w2 (.cells #[.int .i64 1, .int .i64 2, .int .i64 7] 23))
  go_wp2_with fail
  refine (operPut _ _ _ _).mono ?_
  rw [put310]
  rintro e w3 ⟨rfl, l3⟩
  replace hb := hb.le l3
  replace hb2 := hb2.le l3
  replace hl := hl.trans l3
  clear l3
  go_wp2_with fail
  refine (operGet _ _).mono ?_
  rw [getNil]
  rintro e w4 ⟨rfl, l4⟩
  replace hb := hb.le (l4.trans (Le.alloc w4 (.cells #[.int .i64 0, .int .i64 0, .int .i64 0] 23)))
  replace hb2 := hb2.le (l4.trans (Le.alloc w4 (.cells #[.int .i64 0, .int .i64 0, .int .i64 0] 23)))
  replace hl := hl.trans (l4.trans (Le.alloc w4 (.cells #[.int .i64 0, .int .i64 0, .int .i64 0] 23)))
  clear l4
  obtain ⟨b0, b1, b2, _, _, _⟩ := hb.op
  obtain ⟨d0, d1, d2, _, _, _⟩ := hb2.op
  go_wp2_with (go_at_call 10; refine (lawNum _ _).mono ?_; rintro e _ ⟨rfl, rfl⟩)
  refine (operMay _ _ _ _).mono ?_
  rw [show opMay 1 2 7 = true by decide]
  rintro e w5 ⟨rfl, l5⟩
  replace hb := hb.le l5
  replace hl := hl.trans l5
  clear l5 b0 b1 b2 d0 d1 d2
  obtain ⟨b0, b1, b2, _, _, _⟩ := hb.op
  go_wp2_with fail
  refine (operUpdates _ _ _ _).mono ?_
  rw [show opUp 1 2 7 = true by decide]
  rintro e w6 ⟨rfl, l6⟩
  replace hl := hl.trans l6
  go_wp2_with fail
  refine (operUpdates _ _ _ _).mono ?_
  rw [show opUp 2 0 0 = false by decide]
  rintro e w7 ⟨rfl, l7⟩
  go_wp2
  go_ret
  exact ⟨rfl, hl.trans l7⟩

end Go.Proofs.Ytcjflnhpfkkmpaa
