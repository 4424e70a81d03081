/-
  THE WALK over package oper's May: what it answers, for every operation. No condition.
-/
import Derived.Test.YtnpejgendmgfaaaNumA
import Derived.Deep.QuietTactic
import Derived.BigQuiet
namespace Go.Proofs.Ytnpejgendmgfaaa
open Go.RowKit

/-- An operation's value. -/
abbrev opV (c r a : Int) : Value := .agg #[.int .i64 c, .int .i64 r, .int .i64 a]

/-- May it be? -/
def opMay (c r a : Int) : Bool := decide (0 ≤ r) && decide (r < 4) && decide (0 ≤ a) && decide (a ≤ 255) && (decide (c = 0) || decide (c = 1) || (decide (c = 2) && decide (a = 0)) || (decide (c = 3) && decide (r = 0) && decide (a = 0)))
/-- Does it update? -/
def opUp (c r a : Int) : Bool := opMay c r a && (decide (c = 0) || decide (c = 1))

theorem beq_int (a b : Int) : (a == b) = decide (a = b) := by rw [Bool.eq_iff_iff]; simp

set_option maxHeartbeats 2000000 in
theorem operMay (c r a : Int) (w : World) :
    Calls Try.prog 47 #[opV c r a] w fun e w' => e = .returned (.bool (opMay c r a)) ∧ Le w w' := by
  rcases (by omega : r < 0 ∨ 4 ≤ r ∨ a < 0 ∧ 0 ≤ r ∧ r < 4 ∨ 255 < a ∧ 0 ≤ r ∧ r < 4 ∨ 0 ≤ r ∧ r < 4 ∧ 0 ≤ a ∧ a ≤ 255) with h | h | ⟨h, h', h''⟩ | ⟨h, h', h''⟩ | ⟨h1, h2, h3, h4⟩
  iterate 4
    · go_enter Try.func47, Try.ntmps47
      go_wp2
      go_ret
      exact ⟨ret_bool (by simp [opMay]; omega), Le.alloc _ _⟩
  rcases (by omega : c = 0 ∨ c = 1 ∨ c = 2 ∨ c = 3 ∨ (c ≠ 0 ∧ c ≠ 1 ∧ c ≠ 2 ∧ c ≠ 3)) with h | h | h | h | ⟨h5, h6, h7, h8⟩
  iterate 3
    · subst h
      go_enter Try.func47, Try.ntmps47
      go_wp2
      go_ret
      exact ⟨ret_bool (by simp [opMay, h1, h2, h3, h4, beq_int]), Le.alloc _ _⟩
  · subst h
    by_cases hr : r = 0
    all_goals
      go_enter Try.func47, Try.ntmps47
      go_wp2
      go_ret
      exact ⟨ret_bool (by simp [opMay, h1, h2, h3, h4, hr, beq_int]), Le.alloc _ _⟩
  · go_enter Try.func47, Try.ntmps47
    go_wp2
    go_ret
    exact ⟨ret_bool (by simp [opMay, h5, h6, h7, h8]), Le.alloc _ _⟩

theorem ret_pair {a b : Value} {c d : Value} (h : a = b) (k : c = d) : Ending.returned (.tuple #[a, c]) = .returned (.tuple #[b, d]) := by rw [h, k]

end Go.Proofs.Ytnpejgendmgfaaa
