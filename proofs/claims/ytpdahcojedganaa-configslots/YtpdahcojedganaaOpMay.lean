/-
  THE WALK over package oper's May: what it answers, for every operation. No condition.
-/
import Derived.Test.YtpdahcojedganaaNumA
import Derived.Deep.QuietTactic
import Derived.BigQuiet
namespace Go.Proofs.Ytpdahcojedganaa
open Go.RowKit

/-- An operation's value. -/
abbrev opV (c r a : Int) : Value := .agg #[.int .i64 c, .int .i64 r, .int .i64 a]

/-- May it be? -/
def opMay (c r a : Int) : Bool := decide (0 ≤ r) && decide (r < 4) && decide (0 ≤ a) && decide (a ≤ 255) && (decide (c = 0) || decide (c = 1) || (decide (c = 2) && decide (a = 0)) || (decide (c = 3) && decide (r = 0) && decide (a = 0)))
/-- Does it update? -/
def opUp (c r a : Int) : Bool := opMay c r a && (decide (c = 0) || decide (c = 1))

theorem beq_int (a b : Int) : (a == b) = decide (a = b) := by rw [Bool.eq_iff_iff]; simp

theorem ret_pair {a b : Value} {c d : Value} (h : a = b) (k : c = d) : Ending.returned (.tuple #[a, c]) = .returned (.tuple #[b, d]) := by rw [h, k]

end Go.Proofs.Ytpdahcojedganaa
