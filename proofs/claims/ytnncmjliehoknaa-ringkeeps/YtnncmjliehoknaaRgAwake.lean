/-
  THE WALK over choruslaw10.awake: it answers true and turns nothing that was there. No condition.
-/
import Derived.Test.YtnncmjliehoknaaRgH
namespace Go.Proofs.Ytnncmjliehoknaa
open Go.RowKit

def aw0 : List Slt := [Slt.zero, Slt.zero, Slt.zero, Slt.zero]
def aw1 : List Slt := [⟨0, 0, 7, 2, 1⟩, Slt.zero, Slt.zero, Slt.zero]

set_option maxRecDepth 4000 in
set_option maxHeartbeats 2000000 in
theorem lawAwake10 (w : World) : Calls Try.prog 25 #[] w fun e w' => e = .returned (.bool true) ∧ Le w w' := by
  have b1 := newAs (show newS 4 = (⟨0, 0, 0, aw0⟩, 0) by decide)
  have b2 := reserveAs (show reserveS ⟨0, 0, 0, aw0⟩ 3 = (⟨0, 3, 0, aw0⟩, 0, 0) by decide) (by decide)
  have b3 := entryAs (show entryS ⟨0, 3, 0, aw0⟩ 0 = (⟨0, 0, 0, 0, 0⟩, 1002) by decide) (by decide)
  have b4 := publishAs (show publishS ⟨0, 3, 0, aw0⟩ 0 0 0 7 2 = (⟨0, 3, 0, aw1⟩, 0) by decide) (by decide)
  have b5 := entryAs (show entryS ⟨0, 3, 0, aw1⟩ 0 = (⟨0, 0, 7, 2, 1⟩, 0) by decide) (by decide)
  have b6 := reserveAs (show reserveS ⟨0, 3, 0, aw1⟩ 2 = (⟨0, 0, 0, []⟩, 0, 1001) by decide) (by decide)
  have b7 := freeAs (show freeS ⟨0, 3, 0, aw1⟩ 1 = (⟨1, 3, 0, aw1⟩, 0) by decide) (by decide)
  have b8 := newAs (show newS 3 = (⟨0, 0, 0, []⟩, 1000) by decide)
  have b9 := freeAs (show freeS ⟨1, 3, 0, aw1⟩ 0 = (⟨0, 0, 0, []⟩, 1000) by decide) (by decide)
  have b10 := mayAs (show mayR ⟨1, 3, 0, aw1⟩ = true by decide) (by decide)
  go_enter Try.func25, Try.ntmps25
  go_wp2_with fail
  refine (b1 _).mono ?_
  rintro e w1 ⟨q1, rfl, o1, l1⟩
  have hq1 := o1.has.le (Le.alloc w1 (.cells (cellsR 0 0 0 q1) 24))
  go_wp2_with fail
  refine (b2 q1 _ hq1).mono ?_
  rintro e w2 ⟨q2, rfl, o2, l2⟩
  replace l2 := (l1.trans (Le.alloc _ _)).trans l2
  have hb2 := Box.new w2 (cellsR 0 3 0 q2) 24
  have hq2 := o2.has.le (Le.alloc w2 (.cells (cellsR 0 3 0 q2) 24))
  clear l1 o1 hq1 b1 b2
  go_wp2_with fail
  refine (b3 q2 _ hq2).mono ?_
  rintro e w3 ⟨rfl, l3⟩
  replace hb2 := hb2.le l3
  replace hq2 := hq2.le l3
  replace l3 := (l2.trans (Le.alloc _ _)).trans l3
  clear l2 o2 b3
  replace hb2 := hb2.le (Le.alloc w3 (.cells #[.int .i64 0, .int .i64 0, .int .i64 0, .int .i64 0, .int .i64 0] 38))
  replace hq2 := hq2.le (Le.alloc w3 (.cells #[.int .i64 0, .int .i64 0, .int .i64 0, .int .i64 0, .int .i64 0] 38))
  obtain ⟨x0, x1, x2, x3, _, _, _, _⟩ := hb2.ring
  go_wp2_with fail
  refine (b4 q2 _ hq2).mono ?_
  rintro e w4 ⟨q4, rfl, o4, l4⟩
  clear x0 x1 x2 x3
  replace hb2 := (hb2.le l4).le (Le.alloc w4 (.cells (cellsR 0 3 0 q4) 24))
  replace l4 := (l3.trans (Le.alloc _ _)).trans l4
  have hb4 := Box.new w4 (cellsR 0 3 0 q4) 24
  have hq4 := o4.has.le (Le.alloc w4 (.cells (cellsR 0 3 0 q4) 24))
  clear l3 hq2 o4 b4
  go_wp2_with fail
  refine (b5 q4 _ hq4).mono ?_
  rintro e w5 ⟨rfl, l5⟩
  have s5 := Box.new w5 #[.int .i64 0, .int .i64 0, .int .i64 7, .int .i64 2, .int .i64 1] 38
  have a5 := Le.alloc w5 (.cells #[.int .i64 0, .int .i64 0, .int .i64 7, .int .i64 2, .int .i64 1] 38)
  replace hb2 := (hb2.le l5).le a5
  replace hb4 := (hb4.le l5).le a5
  replace hq4 := (hq4.le l5).le a5
  replace l5 := ((l4.trans (Le.alloc _ _)).trans l5).trans a5
  clear l4 b5 a5
  obtain ⟨x0, x1, x2, x3, _, _, _, _⟩ := hb4.ring
  go_wp2_with fail
  refine (b6 q4 _ hq4).mono ?_
  rintro e w6 ⟨q6, rfl, o6, l6⟩
  have a6 := Le.alloc w6 (.cells (cellsR 0 0 0 q6) 24)
  replace hb2 := (hb2.le l6).le a6
  replace hb4 := (hb4.le l6).le a6
  replace hq4 := (hq4.le l6).le a6
  replace s5 := (s5.le l6).le a6
  replace l6 := (l5.trans l6).trans a6
  clear l5 b6 a6 x0 x1 x2 x3 o6
  obtain ⟨x0, x1, x2, x3, _, _, _, _⟩ := hb4.ring
  go_wp2_with fail
  refine (b7 q4 _ hq4).mono ?_
  rintro e w7 ⟨q7, rfl, o7, l7⟩
  have a7 := Le.alloc w7 (.cells (cellsR 1 3 0 q7) 24)
  have hb7 := Box.new w7 (cellsR 1 3 0 q7) 24
  have hq7 := o7.has.le a7
  replace hb2 := (hb2.le l7).le a7
  replace s5 := (s5.le l7).le a7
  replace l7 := (l6.trans l7).trans a7
  clear l6 b7 a7 x0 x1 x2 x3 o7 hb4 hq4
  go_wp2_with fail
  refine (b8 _).mono ?_
  rintro e w8 ⟨q8, rfl, o8, l8⟩
  have a8 := Le.alloc w8 (.cells (cellsR 0 0 0 q8) 24)
  replace hb2 := (hb2.le l8).le a8
  replace s5 := (s5.le l8).le a8
  replace hb7 := (hb7.le l8).le a8
  replace hq7 := (hq7.le l8).le a8
  replace l8 := (l7.trans l8).trans a8
  clear l7 b8 a8 o8
  obtain ⟨x0, x1, x2, x3, _, _, _, _⟩ := hb7.ring
  go_wp2_with fail
  refine (b9 q7 _ hq7).mono ?_
  rintro e w9 ⟨q9, rfl, o9, l9⟩
  have a9 := Le.alloc w9 (.cells (cellsR 0 0 0 q9) 24)
  replace hb2 := (hb2.le l9).le a9
  replace s5 := (s5.le l9).le a9
  replace hb7 := (hb7.le l9).le a9
  replace hq7 := (hq7.le l9).le a9
  replace l9 := (l8.trans l9).trans a9
  clear l8 b9 a9 o9 x0 x1 x2 x3
  obtain ⟨x0, x1, x2, x3, _, _, _, _⟩ := hb7.ring
  obtain ⟨y0, y1, y2, y3, _, _, _, _⟩ := hb2.ring
  obtain ⟨z0, z1, z2, z3, z4⟩ := s5.slot
  go_wp2_with (first | (go_at_call 21; refine (lawNum _ _).mono ?_; rintro e _ ⟨rfl, rfl⟩) | (go_at_call 22; refine (b10 q7 _ hq7).mono ?_; rintro e w10 ⟨rfl, l10⟩))
  go_ret
  exact ⟨rfl, l9.trans l10⟩

end Go.Proofs.Ytnncmjliehoknaa
