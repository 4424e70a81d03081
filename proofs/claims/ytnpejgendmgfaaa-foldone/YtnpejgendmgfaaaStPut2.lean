/-
  PLAIN GROUND, NO WALK: a state with another row, again and again. No condition.
-/
import Derived.Test.YtnpejgendmgfaaaObj
namespace Go.Proofs.Ytnpejgendmgfaaa

theorem St.put_put {s : St} {k : Nat} {x y : List Int} : (s.put k x).put k y = s.put k y := by
  match k with
  | 0 => rfl
  | 1 => rfl
  | 2 => rfl
  | _ + 3 => rfl
theorem St.zero_put {k : Nat} : St.zero.put k [] = St.zero := by
  unfold St.put; split <;> rfl
theorem St.put_at {s : St} {k : Nat} (hk : k < 4) {x : List Int} : (s.put k x).at k = x := by
  rw [St.at_put hk hk]; simp
theorem St.put_same {s : St} {k : Nat} (hk : k < 4) : s.put k (s.at k) = s :=
  St.ext_at fun i hi => by rw [St.at_put hk hi]; split <;> simp_all
theorem fit_small {s : St} (h : s.r0.length ≤ 100 ∧ s.r1.length ≤ 100 ∧ s.r2.length ≤ 100 ∧ s.r3.length ≤ 100) : Fit s := by
  intro i hi
  rcases four hi with rfl | rfl | rfl | rfl <;> simp only [St.at] <;> omega

end Go.Proofs.Ytnpejgendmgfaaa
