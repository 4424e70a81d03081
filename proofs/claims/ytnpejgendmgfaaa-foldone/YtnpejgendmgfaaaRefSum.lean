/-
  PLAIN GROUND, NO WALK: sums of numbers of rows that are short and of small numbers. No condition.
-/
import Derived.Test.YtnpejgendmgfaaaSts
import Derived.Test.YtnpejgendmgfaaaRefMay
import Derived.Test.YtnpejgendmgfaaaRefCp
namespace Go.Proofs.Ytnpejgendmgfaaa

/-- A row of at most four numbers, each from 0 to 255. -/
def Small (xs : List Int) : Prop := xs.length ≤ 4 ∧ ∀ x ∈ xs, 0 ≤ x ∧ x ≤ 255
/-- The sum of the first m numbers. -/
def sumOf (xs : List Int) (m : Nat) : Int := (xs.take m).sum

theorem sumOf_step {xs : List Int} {m : Nat} (h : m < xs.length) : sumOf xs (m + 1) = sumOf xs m + xs.getD m 0 := by
  unfold sumOf
  have e : xs.getD m 0 = xs[m] := by simp [List.getD, h]
  rw [List.take_succ_eq_append_getElem h, List.sum_append, e]
  simp only [List.sum_cons, List.sum_nil, Int.add_zero]
theorem sumOf_all (xs : List Int) : sumOf xs xs.length = xs.sum := by unfold sumOf; rw [List.take_length]
theorem Small.at {xs : List Int} (h : Small xs) {m : Nat} (hm : m < xs.length) : 0 ≤ xs.getD m 0 ∧ xs.getD m 0 ≤ 255 := by
  have := h.2 xs[m] (List.getElem_mem hm)
  simpa [List.getD, hm] using this
theorem Small.sum {xs : List Int} (h : Small xs) : ∀ m, m ≤ xs.length → 0 ≤ sumOf xs m ∧ sumOf xs m ≤ 255 * m
  | 0, _ => by simp [sumOf]
  | m + 1, hm => by
    have ih := h.sum m (by omega)
    have := h.at (m := m) (by omega)
    rw [sumOf_step (by omega)]
    omega
theorem sumTo_small {s : St} (h : ∀ k, k < 4 → Small (s.at k)) : ∀ k, k ≤ 4 → 0 ≤ sumTo s k ∧ sumTo s k ≤ 1020 * k
  | 0, _ => by simp [sumTo]
  | k + 1, hk => by
    have ih := sumTo_small h k (by omega)
    have h1 := (h k (by omega)).1
    have h2 := (h k (by omega)).sum (s.at k).length (Nat.le_refl _)
    rw [sumOf_all] at h2
    simp only [sumTo]
    omega

end Go.Proofs.Ytnpejgendmgfaaa
