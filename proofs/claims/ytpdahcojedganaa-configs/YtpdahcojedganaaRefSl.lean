/-
  THE WALKS over the document's own SlotsMay, cellMay, Bit and Alive: what each answers, for every number and every slot. No condition.
-/
import Derived.Test.YtpdahcojedganaaSlA
import Derived.Test.YtpdahcojedganaaRefMay
namespace Go.Proofs.Ytpdahcojedganaa
open Go.RowKit

theorem refSlotsMay (n : Int) (w : World) : Calls Try.prog 17 #[.int .i64 n] w fun e w' => e = .returned (.bool (slotsB n)) ∧ w = w' := by
  rcases (by omega : n = 2 ∨ n = 4 ∨ n = 8 ∨ n = 16 ∨ (n ≠ 2 ∧ n ≠ 4 ∧ n ≠ 8 ∧ n ≠ 16)) with rfl | rfl | rfl | rfl | ⟨h1, h2, h3, h4⟩
  iterate 4
    · go_enter Try.func17, Try.ntmps17
      go_wp2
      go_ret
      exact ⟨ret_bool (by decide), rfl⟩
  · go_enter Try.func17, Try.ntmps17
    go_wp2
    go_ret
    exact ⟨ret_bool (by simp [slotsB, h1, h2, h3, h4]), rfl⟩

end Go.Proofs.Ytpdahcojedganaa
