/-
  THE WALKS over package store's mayRow, number, sum: what each answers, for every row and state. Condition: where numbers are summed, that the state may be a store; where memory is made, that the rows can be copied.
-/
import Derived.Test.YtafjaghaibagkaaSts
namespace Go.Proofs.Ytafjaghaibagkaa
open Go.RowKit

/-- May a row be a store's? -/
def rowMay1 (xs : List Int) : Bool :=
  match xs with
  | [] => true
  | [x] => decide (0 ≤ x) && decide (x ≤ 255)
  | _ => false

/-- A row's first number, or -1. -/
def firstS (xs : List Int) : Int := xs.headD (-1)

theorem rowMay1_cases {xs : List Int} (h : rowMay1 xs = true) : xs = [] ∨ ∃ x, xs = [x] ∧ 0 ≤ x ∧ x ≤ 255 := by
  match xs with
  | [] => exact .inl rfl
  | [x] => simp [rowMay1] at h; exact .inr ⟨x, rfl, h.1, h.2⟩
  | _ :: _ :: _ => simp [rowMay1] at h

theorem sumTo_bounds {s : St} (h : s.all rowMay1 = true) : ∀ k, k ≤ 4 → 0 ≤ sumTo s k ∧ sumTo s k ≤ 255 * k
  | 0, _ => by simp [sumTo]
  | k + 1, hk => by
    have ih := sumTo_bounds h k (by omega)
    rcases rowMay1_cases (St.all_at h (k := k) (by omega)) with e | ⟨x, e, h0, h1⟩ <;> simp [sumTo, e] <;> omega

theorem storeCopied (v : Value) (s : St) (w : World) (hx : HasS w v s) (hf : Fit s) :
    Calls Try.prog 23 #[v] w fun e w' => ∃ v', e = .returned v' ∧ OwnS w' w.heap.size v' s ∧ Le w w' :=
  (statesCopy v s w hx hf).mono fun _ _ ⟨us, he, ho, _, hl⟩ => ⟨stV us, he, ⟨us, rfl, ho⟩, hl⟩

end Go.Proofs.Ytafjaghaibagkaa
