/-
  PLAIN GROUND AND THE WALKS over package queue's mayRow, put, take, and over slices.ContainsFunc at []int: what each answers, for every row. Condition: at put and take, that the row is the call's own and short.
-/
import Derived.Test.YtafjaghaibagkaaCnt
import Derived.Test.YtafjaghaibagkaaApp
namespace Go.Proofs.Ytafjaghaibagkaa
open Go.RowKit

/-- May a row be a queue's? -/
def rowMay3 (xs : List Int) : Bool := decide (xs.length ≤ 4) && xs.all argB
/-- The row with a number behind all others, and 1; the row as it is, and 0, if it is full. -/
def enqS (xs : List Int) (a : Int) : List Int × Int := if 4 ≤ xs.length then (xs, 0) else (xs ++ [a], 1)
/-- The row without its first number; that number, or -1. -/
def deqS : List Int → List Int × Int
  | [] => ([], -1)
  | x :: r => (r, x)

theorem rowMay3_len {xs : List Int} (h : rowMay3 xs = true) : xs.length ≤ 4 := by
  simp [rowMay3] at h; exact h.1
theorem rowMay3_all {xs : List Int} (h : rowMay3 xs = true) : ∀ x ∈ xs, 0 ≤ x ∧ x ≤ 255 := by
  simp [rowMay3, argB] at h; exact h.2
theorem rowMay3_of {xs : List Int} (h : xs.length ≤ 4) (k : ∀ x ∈ xs, 0 ≤ x ∧ x ≤ 255) : rowMay3 xs = true := by
  simp [rowMay3, argB]; exact ⟨h, k⟩

theorem any_not (xs : List Int) : (!xs.any fun x => !argB x) = xs.all argB := by
  induction xs with
  | nil => rfl
  | cons x r ih => simp only [List.any_cons, List.all_cons, ← ih, Bool.not_or, Bool.not_not]

end Go.Proofs.Ytafjaghaibagkaa
