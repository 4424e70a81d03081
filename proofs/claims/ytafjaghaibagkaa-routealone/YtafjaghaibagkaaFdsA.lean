/-
  PLAIN GROUND AND THE WALKS over package fds' mayRow, free, put, and over slices.Index at []int: what each answers, for every row. Condition: at put, that the row is the call's own and may be a table's.
-/
import Derived.Test.YtafjaghaibagkaaObj
namespace Go.Proofs.Ytafjaghaibagkaa
open Go.RowKit

/-- Do the numbers rise, above l, below 4? -/
def riseFrom (l : Int) : List Int → Bool
  | [] => true
  | x :: r => decide (l < x) && decide (x < 4) && riseFrom x r
/-- May a row be a table's? -/
def rowMay2 (xs : List Int) : Bool := riseFrom (-1) xs

/-- The rows whose numbers rise from 4 - k on. -/
def rowsAbove : Nat → List (List Int)
  | 0 => [[]]
  | k + 1 => rowsAbove k ++ (rowsAbove k).map (List.cons (3 - (k : Int)))

theorem nil_above : ∀ k, ([] : List Int) ∈ rowsAbove k
  | 0 => by simp [rowsAbove]
  | k + 1 => by simp [rowsAbove, nil_above k]

theorem rise_above : ∀ (k : Nat) (l : Int) (xs : List Int), 3 - (k : Int) ≤ l → riseFrom l xs = true → xs ∈ rowsAbove k
  | 0, _, [], _, _ => by simp [rowsAbove]
  | 0, l, x :: r, hl, h => by simp [riseFrom] at h; omega
  | k + 1, _, [], _, _ => nil_above _
  | k + 1, l, x :: r, hl, h => by
    simp only [riseFrom, Bool.and_eq_true, decide_eq_true_eq] at h
    obtain ⟨⟨h1, h2⟩, h3⟩ := h
    rw [rowsAbove, List.mem_append]
    by_cases e : x = 3 - k
    · right
      subst e
      exact List.mem_map.mpr ⟨r, rise_above k _ r (Int.le_refl _) h3, rfl⟩
    · left
      refine rise_above k (3 - k) (x :: r) (Int.le_refl _) ?_
      simp only [riseFrom, Bool.and_eq_true, decide_eq_true_eq]
      exact ⟨⟨by omega, h2⟩, h3⟩

/-- There are sixteen rows that may be a table's. -/
theorem rowMay2_mem {xs : List Int} (h : rowMay2 xs = true) : xs ∈ rowsAbove 4 := rise_above 4 (-1) xs (by omega) h

theorem rows_len : ∀ xs ∈ rowsAbove 4, xs.length ≤ 4 := by decide
theorem rowMay2_len {xs : List Int} (h : rowMay2 xs = true) : xs.length ≤ 4 := rows_len xs (rowMay2_mem h)

/-- The first place, from i on, that does not hold its own number. -/
def freeFrom (i : Int) : List Int → Int
  | [] => i
  | x :: r => if x = i then freeFrom (i + 1) r else i
/-- The least number that is free. -/
def freeS (xs : List Int) : Int := freeFrom 0 xs
/-- The place of a number, counted from i; else -1. -/
def idxFrom (i : Int) (a : Int) : List Int → Int
  | [] => -1
  | x :: r => if a = x then i else idxFrom (i + 1) a r
def idxS (xs : List Int) (a : Int) : Int := idxFrom 0 a xs

theorem freeFrom_bounds : ∀ (i : Int) (xs : List Int), i ≤ freeFrom i xs ∧ freeFrom i xs ≤ i + xs.length
  | i, [] => by simp [freeFrom]
  | i, x :: r => by
    have := freeFrom_bounds (i + 1) r
    simp only [freeFrom, List.length_cons]
    split <;> omega
theorem idxFrom_bounds (a : Int) : ∀ (i : Int) (xs : List Int), idxFrom i a xs = -1 ∨ (i ≤ idxFrom i a xs ∧ idxFrom i a xs < i + xs.length)
  | i, [] => by simp [idxFrom]
  | i, x :: r => by
    have := idxFrom_bounds a (i + 1) r
    simp only [idxFrom, List.length_cons]
    split <;> omega

/-- The row with the least number that is free; that number, or -1. -/
def putS (xs : List Int) : List Int × Int := if 4 ≤ freeS xs then (xs, -1) else (xs.take (freeS xs).toNat ++ freeS xs :: xs.drop (freeS xs).toNat, freeS xs)
/-- The row without a number; 1, or 0 if it was not there. -/
def takeS (xs : List Int) (a : Int) : List Int × Int := if idxS xs a < 0 then (xs, 0) else (xs.take (idxS xs a).toNat ++ xs.drop ((idxS xs a).toNat + 1), 1)

end Go.Proofs.Ytafjaghaibagkaa
