/-
  THE WALK over package oper's Updates: what it answers, for every operation. No condition.
-/
import Derived.Test.YtgjhbhnfeeleeaaOpMay
namespace Go.Proofs.Ytgjhbhnfeeleeaa
open Go.RowKit

set_option maxHeartbeats 2000000 in
theorem operUpdates (c r a : Int) (w : World) :
    Calls Try.prog 35 #[opV c r a] w fun e w' => e = .returned (.bool (opUp c r a)) ∧ Le w w' := by
  have hb := Box.new w #[.int .i64 c, .int .i64 r, .int .i64 a] 51
  have hl := Le.alloc w (.cells #[.int .i64 c, .int .i64 r, .int .i64 a] 51)
  cases hm : opMay c r a
  · go_enter Try.func35, Try.ntmps35
    go_wp2_with (go_at_call 39; refine (operMay _ _ _ _).mono ?_; rw [hm]; rintro e w1 ⟨rfl, l1⟩)
    go_ret
    exact ⟨ret_bool (by simp [opUp, hm]), hl.trans l1⟩
  · by_cases hc : c = 0
    · subst hc
      go_enter Try.func35, Try.ntmps35
      go_wp2_with (go_at_call 39; refine (operMay _ _ _ _).mono ?_; rw [hm]; rintro e w1 ⟨rfl, l1⟩; obtain ⟨b0, b1, b2, f0, f1, f2⟩ := (hb.le l1).op)
      go_ret
      exact ⟨ret_bool (by simp [opUp, hm]), hl.trans l1⟩
    · go_enter Try.func35, Try.ntmps35
      go_wp2_with (go_at_call 39; refine (operMay _ _ _ _).mono ?_; rw [hm]; rintro e w1 ⟨rfl, l1⟩; obtain ⟨b0, b1, b2, f0, f1, f2⟩ := (hb.le l1).op)
      go_ret
      exact ⟨ret_bool (by simp [opUp, hm, hc, beq_int]), hl.trans l1⟩

end Go.Proofs.Ytgjhbhnfeeleeaa
