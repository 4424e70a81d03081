/-
  THE WALKS over the document's own upTo and OperMay: what they answer, for every operation. No condition.
-/
import Derived.Test.YtkangejkdfeelaaOpMay
namespace Go.Proofs.Ytkangejkdfeelaa
open Go.RowKit

theorem refUpTo (x a b : Int) (w : World) : Calls Try.prog 18 #[.int .i64 x, .int .i64 a, .int .i64 b] w fun e w' => e = .returned (.bool (decide (a ≤ x) && decide (x ≤ b))) ∧ w = w' := by
  by_cases h : a ≤ x
  all_goals
    go_enter Try.func18, Try.ntmps18
    go_wp2
    go_ret
    exact ⟨ret_bool (by simp [h]; try omega), rfl⟩

theorem in_yes {a x b : Int} (h : a ≤ x) (k : x ≤ b) : (decide (a ≤ x) && decide (x ≤ b)) = true := by simp [h, k]
theorem in_no {a x b : Int} (h : x < a ∨ b < x) : (decide (a ≤ x) && decide (x ≤ b)) = false := by simp; omega

end Go.Proofs.Ytkangejkdfeelaa
