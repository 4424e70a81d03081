/-
  THE WALK over choruslaw13.awake: it answers true and turns nothing that was there. No condition. Beside it the contracts of package config with their answers given (repAs, cfgAs).
-/
import Derived.Test.YtpdahcojedganaaCfA
import Derived.Deep.Cut
namespace Go.Proofs.Ytpdahcojedganaa
open Go.RowKit

theorem repAs {o r l t s k x er : Int} (h : repS o r l t s k = (x, er)) (w : World) : Calls Try.prog 7 #[cfgV o r l t s, .int .i64 k] w fun e w' => e = .returned (.tuple #[.int .i64 x, .int .i64 er]) ∧ Le w w' := by
  have := cfgReplica o r l t s k w
  rw [h] at this
  exact this
theorem cfgAs {o r l t s : Int} {b : Bool} (h : cfgB o r l t s = b) (w : World) : Calls Try.prog 10 #[cfgV o r l t s] w fun e w' => e = .returned (.bool b) ∧ Le w w' := by
  have := cfgMay o r l t s w
  rw [h] at this
  exact this

theorem Box.cell5 {w : World} {g : Nat} {x y z u v : Value} {t : TypeId} (h : Box w g #[x, y, z, u, v] t) :
    (w.cell? ⟨g, 0, none⟩ = some x ∧ w.cell? ⟨g, 1, none⟩ = some y ∧ w.cell? ⟨g, 2, none⟩ = some z ∧ w.cell? ⟨g, 3, none⟩ = some u ∧ w.cell? ⟨g, 4, none⟩ = some v) ∧
    (w.frozen? ⟨g, 0, none⟩ = false ∧ w.frozen? ⟨g, 1, none⟩ = false ∧ w.frozen? ⟨g, 2, none⟩ = false ∧ w.frozen? ⟨g, 3, none⟩ = false ∧ w.frozen? ⟨g, 4, none⟩ = false) :=
  ⟨h.slot, h.frozen 0, h.frozen 1, h.frozen 2, h.frozen 3, h.frozen 4⟩

set_option maxHeartbeats 1000000 in
theorem lawAwake13 (w : World) : Calls Try.prog 12 #[] w fun e w' => e = .returned (.bool true) ∧ Le w w' := by
  have b1 := fun w => repAs (show repS 2 2 2 4 8 3 = (1, 0) by decide) w
  have b2 := fun w => repAs (show repS 2 2 2 4 8 4 = (0, 1300) by decide) w
  have b3 := fun w => cfgAs (show cfgB 2 2 2 4 8 = true by decide) w
  have b4 := fun w => cfgAs (show cfgB 2 2 2 4 4 = false by decide) w
  have hl := Le.alloc w (.cells #[.int .i64 2, .int .i64 2, .int .i64 2, .int .i64 4, .int .i64 8] 23)
  have hb := Box.new w #[.int .i64 2, .int .i64 2, .int .i64 2, .int .i64 4, .int .i64 8] 23
  go_enter Try.func12, Try.ntmps12
  go_wp2_with fail
  refine (b1 _).mono ?_
  rintro e w1 ⟨rfl, l1⟩
  replace hb := hb.le l1
  obtain ⟨y0, y1, y2, y3, y4⟩ := hb.slot
  go_wp2_with fail
  refine (b2 _).mono ?_
  rintro e w2 ⟨rfl, l2⟩
  replace hb := hb.le l2
  clear y0 y1 y2 y3 y4
  obtain ⟨y0, y1, y2, y3, y4⟩ := hb.slot
  have hl3 := Le.alloc w2 (.cells #[.int .i64 2, .int .i64 2, .int .i64 2, .int .i64 4, .int .i64 4] 23)
  have hb3 := Box.new w2 #[.int .i64 2, .int .i64 2, .int .i64 2, .int .i64 4, .int .i64 4] 23
  go_upto_region 6 with fail
  generalize hW : w2.alloc (.cells #[.int .i64 2, .int .i64 2, .int .i64 2, .int .i64 4, .int .i64 4] 23) = W at hl3 hb3 ⊢
  clear y0 y1 y2 y3 y4
  replace hb := hb.le hl3
  obtain ⟨y0, y1, y2, y3, y4⟩ := hb.slot
  go_wp2_with fail
  refine (b3 _).mono ?_
  rintro e w4 ⟨rfl, l4⟩
  obtain ⟨z0, z1, z2, z3, z4⟩ := (hb3.le l4).slot
  go_wp2_with fail
  refine (b4 _).mono ?_
  rintro e w5 ⟨rfl, l5⟩
  go_wp2_with (go_at_call 9; refine (lawNum _ _).mono ?_; rintro e _ ⟨rfl, rfl⟩)
  go_ret
  exact ⟨rfl, ((((hl.trans l1).trans l2).trans hl3).trans l4).trans l5⟩

end Go.Proofs.Ytpdahcojedganaa
