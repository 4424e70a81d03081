/-
  THE WALK over choruslaw7.Routes: it answers true, for every operation, state and numbers, and turns nothing that was there. Condition: the state's rows can be copied.
-/
import Derived.Test.YtafjaghaibagkaaRoAwake
import Derived.Test.YtafjaghaibagkaaRoR
import Derived.Test.YtafjaghaibagkaaStC
namespace Go.Proofs.Ytafjaghaibagkaa
open Go.RowKit

set_option maxRecDepth 4000 in
set_option maxHeartbeats 2000000 in
theorem lawRoutes (w : World) (c r a : Int) (v : Value) (s : St) (hx : HasS w v s) (hf : Fit s) (g n : Int) :
    Calls Try.prog 3 #[opV c r a, v, .int .i64 g, .int .i64 n] w fun e w' => e = .returned (.bool true) ∧ Le w w' := by
  have hx0 := hx
  obtain ⟨vs, rfl, hr⟩ := hx
  have hl := (Le.alloc w (.cells #[.int .i64 c, .int .i64 r, .int .i64 a] 23)).trans (Le.alloc _ (.cells (cells4 vs) 27))
  have hb2 := (Box.new w #[.int .i64 c, .int .i64 r, .int .i64 a] 23).le (Le.alloc _ (.cells (cells4 vs) 27))
  have hb1 := Box.new (w.alloc (.cells #[.int .i64 c, .int .i64 r, .int .i64 a] 23)) (cells4 vs) 27
  simp only [World.size_alloc] at hb1 hb2
  go_enter Try.func3, Try.ntmps3
  go_wp2_with fail
  refine (lawCopyState (stV vs) s _ (hx0.le hl) hf).mono ?_
  rintro e w1 ⟨_, rfl, ⟨us, rfl, ho1⟩, l1⟩
  have hb3 := Box.new w1 (cells4 us) 27
  replace l1 := l1.trans (Le.alloc w1 (.cells (cells4 us) 27))
  replace hb1 := hb1.le l1
  replace hb2 := hb2.le l1
  replace hl := hl.trans l1
  have hx1 : HasS (w1.alloc (.cells (cells4 us) 27)) (stV us) s := OwnS.has ⟨us, rfl, fun i hi => (ho1 i hi).le (Le.alloc _ _)⟩
  clear l1 ho1
  go_upto_region 2 with fail
  generalize hW : w1.alloc (.cells (cells4 us) 27) = W at hb1 hb2 hb3 hl hx1 ⊢
  clear hW
  obtain ⟨y0, y1, y2, _, _, _⟩ := hb2.op
  obtain ⟨L1, hL1⟩ : ∃ L1, L1 = logS c r a n := ⟨_, rfl⟩
  obtain ⟨P1, hP1⟩ : ∃ P1, P1 = partS s g n := ⟨_, rfl⟩
  have hfP : Fit P1.1 := by rw [hP1]; exact hf.partS g n
  go_wp2_with fail
  refine (routeLog c r a n _).mono ?_
  rw [← hL1]
  rintro e w2 ⟨rfl, l2⟩
  clear y0 y1 y2
  obtain ⟨y0, y1, y2, _, _, _⟩ := (hb2.le l2).op
  go_wp2_with fail
  refine (refLogOf c r a n _).mono ?_
  rw [← hL1]
  rintro e w3 ⟨rfl, l3⟩
  replace l2 := l2.trans l3
  clear y0 y1 y2 l3
  obtain ⟨y0, y1, y2, y3, _, _, _, _⟩ := (hb3.le l2).st
  go_wp2_with fail
  refine (routePart (stV us) s g n _ (hx1.le l2) hf).mono ?_
  rw [← hP1]
  rintro e w4 ⟨_, rfl, ⟨q2, rfl, ho2⟩, l4⟩
  replace ho2 := fun i hi => (ho2 i hi).base (base' := W.heap.size) l2.size
  have hb4 := Box.new w4 (cells4 q2) 27
  replace l4 := l4.trans (Le.alloc w4 (.cells (cells4 q2) 27))
  replace ho2 := fun i hi => (ho2 i hi).le (Le.alloc w4 (.cells (cells4 q2) 27))
  replace l2 := l2.trans l4
  clear y0 y1 y2 y3 l4
  obtain ⟨y0, y1, y2, y3, _, _, _, _⟩ := (hb1.le l2).st
  go_wp2_with fail
  refine (refPart (stV vs) s g n _ (hx0.le (hl.trans l2)) hf).mono ?_
  rw [← hP1]
  rintro e w5 ⟨_, rfl, ⟨q3, rfl, ho3⟩, l5⟩
  have hb5 := Box.new w5 (cells4 q3) 27
  replace l5 := l5.trans (Le.alloc w5 (.cells (cells4 q3) 27))
  replace ho3 := fun i hi => (ho3 i hi).le (Le.alloc w5 (.cells (cells4 q3) 27))
  replace ho2 := fun i hi => (ho2 i hi).le l5
  replace hb4 := hb4.le l5
  replace l2 := l2.trans l5
  clear y0 y1 y2 y3 l5 hL1 hP1
  go_upto_region 6 with fail
  generalize hW : w5.alloc (.cells (cells4 q3) 27) = W5 at hb4 hb5 l2 ho2 ho3 ⊢
  clear hW
  obtain ⟨y0, y1, y2, y3, _, _, _, _⟩ := hb4.st
  obtain ⟨x0, x1, x2, x3, _, _, _, _⟩ := hb5.st
  have hsame := lawSameState (stV q2) (stV q3) P1.1 P1.1 W5 (OwnS.has ⟨q2, rfl, fun i hi => ho2 i hi⟩) (OwnS.has ⟨q3, rfl, fun i hi => ho3 i hi⟩) hfP
  rw [show decide (P1.1 = P1.1) = true by simp] at hsame
  go_wp2_with (first | (go_at_call 12; refine (lawNum _ _).mono ?_; rintro e _ ⟨rfl, rfl⟩) | (go_at_call 13; refine hsame.mono ?_; rintro e w6 ⟨rfl, l6⟩; clear hsame x0 x1 x2 x3 y0 y1 y2 y3; obtain ⟨y0, y1, y2, y3, _, _, _, _⟩ := (hb4.le l6).st))
  replace ho2 := fun i hi => (ho2 i hi).le l6
  replace l2 := l2.trans l6
  refine (lawSpoilState (stV q2) W.heap.size _ (OwnS.ints ⟨q2, rfl, ho2⟩) l2.size).mono ?_
  rintro e w7 ⟨rfl, s5⟩
  replace l2 : Le W w7 := Below.trans l2 s5.below
  clear y0 y1 y2 y3 ho2 hb4 s5
  obtain ⟨y0, y1, y2, y3, _, _, _, _⟩ := (hb3.le l2).st
  obtain ⟨x0, x1, x2, x3, _, _, _, _⟩ := (hb1.le l2).st
  go_wp2_with fail
  refine (lawSameState (stV us) (stV vs) s s _ (hx1.le l2) (hx0.le (hl.trans l2)) hf).mono ?_
  rw [show decide (s = s) = true by simp]
  rintro e w8 ⟨rfl, l8⟩
  go_wp2_with fail
  refine (lawAwake7 _).mono ?_
  rintro e w9 ⟨rfl, l7⟩
  go_wp2_with fail
  go_ret
  exact ⟨rfl, ((hl.trans l2).trans l8).trans l7⟩

end Go.Proofs.Ytafjaghaibagkaa
