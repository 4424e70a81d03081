/-
  THE WALK over choruslaw4.Tables: it answers true, for every state and operation, and turns nothing that was there. Condition: the state's rows can be copied.
-/
import Derived.Test.YtkppohpjlaeloaaFdAwake
import Derived.Test.YtkppohpjlaeloaaRefApp1
import Derived.Test.YtkppohpjlaeloaaStC
namespace Go.Proofs.Ytkppohpjlaeloaa
open Go.RowKit

set_option maxHeartbeats 2000000 in
theorem lawTables (w : World) (v : Value) (s : St) (hx : HasS w v s) (hf : Fit s) (c r a : Int) :
    Calls Try.prog 3 #[v, opV c r a] w fun e w' => e = .returned (.bool true) ∧ Le w w' := by
  have hx0 := hx
  obtain ⟨vs, rfl, hr⟩ := hx
  have hl := (Le.alloc w (.cells (cells4 vs) 25)).trans (Le.alloc _ (.cells #[.int .i64 c, .int .i64 r, .int .i64 a] 27))
  have hb1 := (Box.new w (cells4 vs) 25).le (Le.alloc _ (.cells #[.int .i64 c, .int .i64 r, .int .i64 a] 27))
  have hb2 := Box.new (w.alloc (.cells (cells4 vs) 25)) #[.int .i64 c, .int .i64 r, .int .i64 a] 27
  simp only [World.size_alloc] at hb1 hb2
  go_enter Try.func3, Try.ntmps3
  go_wp2_with fail
  refine (lawCopyState (stV vs) s _ (hx0.le hl) hf).mono ?_
  rintro e w1 ⟨_, rfl, ⟨us, rfl, ho1⟩, l1⟩
  have hb3 := Box.new w1 (cells4 us) 25
  replace l1 := l1.trans (Le.alloc w1 (.cells (cells4 us) 25))
  replace hb1 := hb1.le l1
  replace hb2 := hb2.le l1
  replace hl := hl.trans l1
  have hx1 : HasS (w1.alloc (.cells (cells4 us) 25)) (stV us) s := OwnS.has ⟨us, rfl, fun i hi => (ho1 i hi).le (Le.alloc _ _)⟩
  clear l1 ho1
  obtain ⟨y0, y1, y2, _, _, _⟩ := hb2.op
  go_upto_region 2 with fail
  generalize hW : w1.alloc (.cells (cells4 us) 25) = W at hb1 hb2 hb3 hl hx1 y0 y1 y2 ⊢
  clear hW
  obtain ⟨x0, x1, x2, x3, _, _, _, _⟩ := hb3.st
  go_wp2_with fail
  refine (fdsApply (stV us) s c r a W hx1 hf).mono ?_
  obtain ⟨S1, hS1⟩ : ∃ S1, S1 = fdsS s c r a 400 := ⟨_, rfl⟩
  have hfS : Fit S1.1 := by rw [hS1]; exact hf.fds c r a 400
  rw [← hS1]
  rintro e w2 ⟨_, rfl, ⟨q2, rfl, ho2⟩, l2⟩
  have hb4 := Box.new w2 (cells4 q2) 25
  replace l2 := l2.trans (Le.alloc w2 (.cells (cells4 q2) 25))
  replace ho2 := fun i hi => (ho2 i hi).le (Le.alloc w2 (.cells (cells4 q2) 25))
  clear x0 x1 x2 x3 y0 y1 y2
  obtain ⟨y0, y1, y2, _, _, _⟩ := (hb2.le l2).op
  obtain ⟨x0, x1, x2, x3, _, _, _, _⟩ := (hb1.le l2).st
  go_wp2_with fail
  refine (refFds (stV vs) s c r a 400 _ (hx0.le (hl.trans l2)) hf).mono ?_
  rw [← hS1]
  rintro e w3 ⟨_, rfl, ⟨q3, rfl, ho3⟩, l3⟩
  have hb5 := Box.new w3 (cells4 q3) 25
  replace l3 := l3.trans (Le.alloc w3 (.cells (cells4 q3) 25))
  replace ho3 := fun i hi => (ho3 i hi).le (Le.alloc w3 (.cells (cells4 q3) 25))
  replace ho2 := fun i hi => (ho2 i hi).le l3
  replace hb4 := hb4.le l3
  replace l2 := l2.trans l3
  clear l3 x0 x1 x2 x3 y0 y1 y2
  clear hS1
  go_upto_region 4 with fail
  generalize hW : w3.alloc (.cells (cells4 q3) 25) = W3 at hb4 hb5 l2 ho2 ho3 ⊢
  clear hW
  obtain ⟨y0, y1, y2, y3, _, _, _, _⟩ := hb4.st
  obtain ⟨x0, x1, x2, x3, _, _, _, _⟩ := hb5.st
  go_wp2_with fail
  refine (lawSameState (stV q2) (stV q3) S1.1 S1.1 _ (OwnS.has ⟨q2, rfl, ho2⟩) (OwnS.has ⟨q3, rfl, ho3⟩) hfS).mono ?_
  rw [show decide (S1.1 = S1.1) = true by simp]
  rintro e w4 ⟨rfl, l4⟩
  replace hb4 := hb4.le l4
  replace l2 := l2.trans l4
  replace ho2 := fun i hi => (ho2 i hi).le l4
  clear l4 ho3 hb5 x0 x1 x2 x3 y0 y1 y2 y3
  obtain ⟨y0, y1, y2, y3, _, _, _, _⟩ := hb4.st
  go_wp2_with (go_at_call 13; refine (lawNum _ _).mono ?_; rintro e _ ⟨rfl, rfl⟩)
  refine (lawSpoilState (stV q2) W.heap.size _ (OwnS.ints ⟨q2, rfl, ho2⟩) l2.size).mono ?_
  rintro e w5 ⟨rfl, s5⟩
  replace l2 : Le W w5 := Below.trans l2 s5.below
  clear y0 y1 y2 y3 ho2 hb4 s5
  obtain ⟨y0, y1, y2, y3, _, _, _, _⟩ := (hb3.le l2).st
  obtain ⟨x0, x1, x2, x3, _, _, _, _⟩ := (hb1.le l2).st
  go_wp2_with fail
  refine (lawSameState (stV us) (stV vs) s s _ (hx1.le l2) (hx0.le (hl.trans l2)) hf).mono ?_
  rw [show decide (s = s) = true by simp]
  rintro e w6 ⟨rfl, l6⟩
  go_wp2_with fail
  refine (lawAwake4 _).mono ?_
  rintro e w7 ⟨rfl, l7⟩
  go_wp2_with fail
  go_ret
  exact ⟨rfl, ((hl.trans l2).trans l6).trans l7⟩

end Go.Proofs.Ytkppohpjlaeloaa
