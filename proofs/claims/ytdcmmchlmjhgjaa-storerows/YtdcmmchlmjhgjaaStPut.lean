/-
  PLAIN GROUND, NO WALK: a state with another row, again and again. No condition.
-/
import Derived.Test.YtdcmmchlmjhgjaaStoreC
import Derived.Test.YtdcmmchlmjhgjaaStPut2
namespace Go.Proofs.Ytdcmmchlmjhgjaa

theorem St.all_put' {s : St} {p : List Int → Bool} {k : Nat} (hk : k < 4) {x : List Int} (h : s.all p = true) (hx : p x = true) : (s.put k x).all p = true := St.all_put h hk hx
theorem may_one {x : Int} (h : 0 ≤ x ∧ x ≤ 255) : rowMay1 [x] = true := by simp [rowMay1, h]
theorem may_zero : St.zero.all rowMay1 = true := by decide

end Go.Proofs.Ytdcmmchlmjhgjaa
