/-
  THE WALKS over the document's own SlotsMay, cellMay, Bit and Alive: what each answers, for every number and every slot. No condition.
-/
import Derived.Test.YtgjhbhnfeeleeaaSlA
import Derived.Test.YtgjhbhnfeeleeaaRefMay
namespace Go.Proofs.Ytgjhbhnfeeleeaa
open Go.RowKit

theorem refSlotsMay (n : Int) (w : World) : Calls Try.prog 24 #[.int .i64 n] w fun e w' => e = .returned (.bool (slotsB n)) ∧ w = w' := by
  rcases (by omega : n = 2 ∨ n = 4 ∨ n = 8 ∨ n = 16 ∨ (n ≠ 2 ∧ n ≠ 4 ∧ n ≠ 8 ∧ n ≠ 16)) with rfl | rfl | rfl | rfl | ⟨h1, h2, h3, h4⟩
  iterate 4
    · go_enter Try.func24, Try.ntmps24
      go_wp2
      go_ret
      exact ⟨ret_bool (by decide), rfl⟩
  · go_enter Try.func24, Try.ntmps24
    go_wp2
    go_ret
    exact ⟨ret_bool (by simp [slotsB, h1, h2, h3, h4]), rfl⟩

theorem refCellMay (x : Int) (w : World) : Calls Try.prog 30 #[.int .i64 x] w fun e w' => e = .returned (.bool (holdB x)) ∧ w = w' := by
  go_enter Try.func30, Try.ntmps30
  go_wp2_with (go_at_call 31; refine (refUpTo _ _ _ _).mono ?_; rintro e _ ⟨rfl, rfl⟩)
  go_ret
  exact ⟨rfl, rfl⟩

end Go.Proofs.Ytgjhbhnfeeleeaa
