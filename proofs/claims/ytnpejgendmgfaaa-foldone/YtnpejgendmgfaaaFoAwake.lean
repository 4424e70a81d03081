/-
  THE WALK over choruslaw12.awake: it answers true and turns nothing that was there. No condition.
-/
import Derived.Test.YtnpejgendmgfaaaFoB
import Derived.Test.YtnpejgendmgfaaaSameA
import Derived.Test.YtnpejgendmgfaaaNumA
namespace Go.Proofs.Ytnpejgendmgfaaa
open Go.RowKit

theorem fo1 : foldS 0 St.zero [⟨0, 0, 5⟩, ⟨0, 0, 6⟩, ⟨2, 0, 0⟩] 1200 = (⟨[6], [], [], []⟩, [-1, 5, 6], 0) := by decide
theorem fo2 : foldS 0 St.zero [⟨9, 0, 0⟩] 1200 = (St.zero, [], 1200) := by decide
theorem fo3 : foldS 7 St.zero [] 1200 = (St.zero, [], 1200) := by decide

set_option maxRecDepth 4000 in
set_option maxHeartbeats 400000 in
theorem lawAwake12 (w : World) : Calls Try.prog 19 #[] w fun e w' => e = .returned (.bool true) ∧ Le w w' := by
  have hl := Le.alloc w (.cells (cells4 fun _ => slZ) 25)
  have hb0 := Box.new w (cells4 fun _ => slZ) 25
  go_enter Try.func19, Try.ntmps19
  go_upto_region 2 with fail
  generalize hW : w.alloc (.cells (cells4 fun _ => slZ) 25) = W0 at hl hb0 ⊢
  clear hW
  obtain ⟨y0, y1, y2, y3, _, _, _, _⟩ := hb0.st
  have hq1 : OwnO (W0.alloc (.cells #[.int .i64 0, .int .i64 0, .int .i64 5, .int .i64 0, .int .i64 0, .int .i64 6, .int .i64 2, .int .i64 0, .int .i64 0] 43)) W0.heap.size (.slice (some ⟨W0.heap.size, 0, none⟩) 3 3) [⟨0, 0, 5⟩, ⟨0, 0, 6⟩, ⟨2, 0, 0⟩] := OwnO.lit W0 W0.heap.size (Nat.le_refl _) [⟨0, 0, 5⟩, ⟨0, 0, 6⟩, ⟨2, 0, 0⟩] (by decide)
  have hc1 := foldFold 0 stZ _ St.zero _ _ (HasS.zero _) fit_zero hq1.has (by decide)
  simp only [fo1] at hc1
  go_wp2_with fail
  refine hc1.mono ?_
  rintro e w1 ⟨_, z, rfl, ⟨q1, rfl, o1⟩, oz, l1⟩
  have hb1 := Box.new w1 (cells4 q1) 25
  have hA := Le.alloc w1 (.cells (cells4 q1) 25)
  have l2 := ((Le.alloc W0 _).trans l1).trans hA
  replace hb0 := hb0.le l2
  replace hl := hl.trans l2
  replace oz := oz.has.le hA
  have o2 := fun i hi => (o1 i hi).has.le hA
  clear hc1 hq1 y0 y1 y2 y3 l1 hA l2 o1
  go_upto_region 3 with fail
  generalize hW : w1.alloc (.cells (cells4 q1) 25) = W1 at hl hb0 hb1 oz o2 ⊢
  generalize w1.heap.size = g1 at hb1 ⊢
  clear hW
  obtain ⟨y0, y1, y2, y3, _, _, _, _⟩ := hb0.st
  have hq1 : OwnO (W1.alloc (.cells #[.int .i64 9, .int .i64 0, .int .i64 0] 43)) W1.heap.size (.slice (some ⟨W1.heap.size, 0, none⟩) 1 1) [⟨9, 0, 0⟩] := OwnO.lit W1 W1.heap.size (Nat.le_refl _) [⟨9, 0, 0⟩] (by decide)
  have hc1 := foldFold 0 stZ _ St.zero _ _ (HasS.zero _) fit_zero hq1.has (by decide)
  simp only [fo2] at hc1
  obtain ⟨qz, rfl⟩ := oz.sl
  go_wp2_with fail
  refine hc1.mono ?_
  rintro e w3 ⟨_, z3, rfl, ⟨q3, rfl, o3⟩, oz3, l3⟩
  have hA := Le.alloc w3 (.cells (cells4 q3) 25)
  have l4 := ((Le.alloc W1 _).trans l3).trans hA
  replace hb0 := hb0.le l4
  replace hb1 := hb1.le l4
  replace hl := hl.trans l4
  replace oz := oz.le l4
  replace o2 := fun i hi => (o2 i hi).le l4
  clear hc1 hq1 y0 y1 y2 y3 hA l3 l4 o3 oz3
  go_upto_region 4 with fail
  generalize hW : w3.alloc (.cells (cells4 q3) 25) = W3 at hl hb0 hb1 oz o2 ⊢
  clear hW
  obtain ⟨y0, y1, y2, y3, _, _, _, _⟩ := hb0.st
  have hc1 := foldFold 7 stZ _ St.zero [] W3 (HasS.zero _) fit_zero ⟨none, 0, rfl, Nat.le_refl _, fun _ => rfl, fun h => by simp at h⟩ (by decide)
  simp only [fo3] at hc1
  go_wp2_with fail
  refine hc1.mono ?_
  rintro e w5 ⟨_, z5, rfl, ⟨q5, rfl, o5⟩, oz5, l5⟩
  have hA := Le.alloc w5 (.cells (cells4 q5) 25)
  have l6 := l5.trans hA
  replace hb1 := hb1.le l6
  replace hl := hl.trans l6
  replace oz := oz.le l6
  replace o2 := fun i hi => (o2 i hi).le l6
  clear hc1 y0 y1 y2 y3 hA l5 l6 o5 oz5 hb0
  go_upto_region 5 with fail
  generalize hW : w5.alloc (.cells (cells4 q5) 25) = W5 at hl hb1 oz o2 ⊢
  clear hW
  obtain ⟨y0, y1, y2, y3, _, _, _, _⟩ := hb1.st
  have hr0 : Has W5 (slV (q1 0)) [6] := o2 0 (by omega)
  clear o2
  have hlit : Own (W5.alloc (.cells #[.int .i64 6] 3)) W5.heap.size (.slice (some ⟨W5.heap.size, 0, none⟩) 1 1) [6] := Own.lit W5 W5.heap.size (Nat.le_refl _) [6] (by simp)
  have hs1 := lawSameInts (slV (q1 0)) _ [6] [6] _ (hr0.le (Le.alloc _ _)) hlit.has (by simp)
  rw [show decide (([6] : List Int) = [6]) = true by decide] at hs1
  go_wp2_with fail
  refine hs1.mono ?_
  rintro e _ ⟨rfl, n, rfl⟩
  have l7 := (Le.alloc W5 (.cells #[.int .i64 6] 3)).trans (Le.drewN _ n)
  generalize hW : (W5.alloc (.cells #[.int .i64 6] 3)).drewN n = W6 at l7 ⊢
  clear hW
  have hlit2 : Own (W6.alloc (.cells #[.int .i64 (-1), .int .i64 5, .int .i64 6] 3)) W6.heap.size (.slice (some ⟨W6.heap.size, 0, none⟩) 3 3) [-1, 5, 6] := Own.lit W6 W6.heap.size (Nat.le_refl _) [-1, 5, 6] (by simp)
  replace oz : Has W5 (slV qz) [-1, 5, 6] := oz
  have hs2 := lawSameInts (slV qz) _ [-1, 5, 6] [-1, 5, 6] _ ((oz.le l7).le (Le.alloc _ _)) hlit2.has (by simp)
  rw [decide_eq_true (rfl : ([-1, 5, 6] : List Int) = [-1, 5, 6])] at hs2
  go_wp2_with fail
  refine hs2.mono ?_
  rintro e _ ⟨rfl, n2, rfl⟩
  replace hl := ((hl.trans l7).trans (Le.alloc W6 (.cells #[.int .i64 (-1), .int .i64 5, .int .i64 6] 3))).trans (Le.drewN _ n2)
  generalize hW : (W6.alloc (.cells #[.int .i64 (-1), .int .i64 5, .int .i64 6] 3)).drewN n2 = W7 at hl ⊢
  clear hW hs1 hs2 hlit hlit2 l7 oz hr0 hb1 y0 y1 y2 y3
  go_wp2_with (go_at_call 15; refine (lawNum _ _).mono ?_; rintro e _ ⟨rfl, rfl⟩)
  go_ret
  exact ⟨rfl, hl⟩

end Go.Proofs.Ytnpejgendmgfaaa
