/-
  PLAIN GROUND, NO WALK: a state with another row, again and again. No condition.
-/
import Derived.Test.YtjdedgamafdbmaaObj
namespace Go.Proofs.Ytjdedgamafdbmaa

theorem St.put_put {s : St} {k : Nat} {x y : List Int} : (s.put k x).put k y = s.put k y := by
  match k with
  | 0 => rfl
  | 1 => rfl
  | 2 => rfl
  | _ + 3 => rfl
theorem St.zero_put {k : Nat} : St.zero.put k [] = St.zero := by
  unfold St.put; split <;> rfl
theorem St.put_at {s : St} {k : Nat} (hk : k < 4) {x : List Int} : (s.put k x).at k = x := by
  rw [St.at_put hk hk]; simp
end Go.Proofs.Ytjdedgamafdbmaa
