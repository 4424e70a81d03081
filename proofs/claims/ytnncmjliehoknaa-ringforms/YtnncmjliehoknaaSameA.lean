/-
  THE WALK over choruslaw0.SameInts: are they the same numbers, for every two slices. No condition but that a slice's length is a number.
-/
import Derived.Test.YtnncmjliehoknaaSlc
import Derived.Test.YtnncmjliehoknaaNumA
import Derived.Deep.QuietTactic
import Derived.BigQuiet
namespace Go.Proofs.Ytnncmjliehoknaa
open Go.RowKit

theorem take_same {xs ys : List Int} {k : Nat} (h1 : k < xs.length) (h2 : k < ys.length) (h : xs.take k = ys.take k) (he : xs.getD k 0 = ys.getD k 0) : xs.take (k + 1) = ys.take (k + 1) := by
  rw [List.take_succ_eq_append_getElem h1, List.take_succ_eq_append_getElem h2, h]
  simp [List.getD, h1, h2] at he
  rw [he]

theorem ne_of_at {xs ys : List Int} {k : Nat} (he : ¬ xs.getD k 0 = ys.getD k 0) : ¬ xs = ys := fun h => he (by rw [h])

end Go.Proofs.Ytnncmjliehoknaa
