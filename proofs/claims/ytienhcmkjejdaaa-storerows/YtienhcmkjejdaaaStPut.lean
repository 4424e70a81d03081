/-
  PLAIN GROUND, NO WALK: a state with another row, again and again. No condition.
-/
import Derived.Test.YtienhcmkjejdaaaStoreC
namespace Go.Proofs.Ytienhcmkjejdaaa

theorem St.put_put {s : St} {k : Nat} {x y : List Int} : (s.put k x).put k y = s.put k y := by
  match k with
  | 0 => rfl
  | 1 => rfl
  | 2 => rfl
  | _ + 3 => rfl
theorem St.zero_put {k : Nat} : St.zero.put k [] = St.zero := by
  unfold St.put; split <;> rfl
theorem St.put_at {s : St} {k : Nat} (hk : k < 4) {x : List Int} : (s.put k x).at k = x := by
  rw [St.at_put hk hk]; simp
theorem St.all_put {s : St} {p : List Int → Bool} {k : Nat} (hk : k < 4) {x : List Int} (h : s.all p = true) (hx : p x = true) : (s.put k x).all p = true := by
  refine St.all_of fun j hj => ?_
  rw [St.at_put hk hj]
  split
  · exact hx
  · exact St.all_at h hj
theorem may_one {x : Int} (h : 0 ≤ x ∧ x ≤ 255) : rowMay1 [x] = true := by simp [rowMay1, h]
theorem may_zero : St.zero.all rowMay1 = true := by decide

end Go.Proofs.Ytienhcmkjejdaaa
