/-
  THE WALK over choruslaw6.Objects: it answers true, for every object, state and operation, and turns nothing that was there. Condition: the state's rows can be copied.
-/
import Derived.Test.YtmfjiadamdajeaaObAwake
import Derived.Test.YtmfjiadamdajeaaRefObj
import Derived.Test.YtmfjiadamdajeaaStC
import Derived.Test.YtmfjiadamdajeaaHasBox
namespace Go.Proofs.Ytmfjiadamdajeaa
open Go.RowKit

set_option maxRecDepth 4000 in
set_option maxHeartbeats 2000000 in
theorem lawObjects (w : World) (o : Int) (v : Value) (s : St) (hx : HasS w v s) (hf : Fit s) (c r a : Int) :
    Calls Try.prog 3 #[.int .i64 o, v, opV c r a] w fun e w' => e = .returned (.bool true) ∧ Le w w' := by
  have hx0 := hx
  obtain ⟨vs, rfl, hr⟩ := hx
  have hl := (Le.alloc w (.cells (cells4 vs) 25)).trans (Le.alloc _ (.cells #[.int .i64 c, .int .i64 r, .int .i64 a] 27))
  have hb1 := (Box.new w (cells4 vs) 25).le (Le.alloc _ (.cells #[.int .i64 c, .int .i64 r, .int .i64 a] 27))
  have hb2 := Box.new (w.alloc (.cells (cells4 vs) 25)) #[.int .i64 c, .int .i64 r, .int .i64 a] 27
  simp only [World.size_alloc] at hb1 hb2
  go_enter Try.func3, Try.ntmps3
  go_wp2_with fail
  refine (lawCopyState (stV vs) s _ (hx0.le hl) hf).mono ?_
  rintro e w1 ⟨_, rfl, ⟨us, rfl, ho1⟩, l1⟩
  have hb3 := Box.new w1 (cells4 us) 25
  replace l1 := l1.trans (Le.alloc w1 (.cells (cells4 us) 25))
  replace hb1 := hb1.le l1
  replace hb2 := hb2.le l1
  replace hl := hl.trans l1
  have hx1 : HasS (w1.alloc (.cells (cells4 us) 25)) (stV us) s := OwnS.has ⟨us, rfl, fun i hi => (ho1 i hi).le (Le.alloc _ _)⟩
  clear l1 ho1
  obtain ⟨y0, y1, y2, _, _, _⟩ := hb2.op
  go_upto_region 2 with fail
  generalize hW : w1.alloc (.cells (cells4 us) 25) = W at hb1 hb2 hb3 hl hx1 y0 y1 y2 ⊢
  clear hW
  obtain ⟨x0, x1, x2, x3, _, _, _, _⟩ := hb3.st
  go_wp2_with fail
  refine (objApply o (stV us) s c r a W hx1 hf).mono ?_
  obtain ⟨S1, hS1⟩ : ∃ S1, S1 = objS o s c r a 600 := ⟨_, rfl⟩
  have hfS : Fit S1.1 := by rw [hS1]; exact hf.obj o c r a 600
  rw [← hS1]
  rintro e w2 ⟨_, rfl, ⟨q2, rfl, ho2⟩, l2⟩
  have hb4 := Box.new w2 (cells4 q2) 25
  replace l2 := l2.trans (Le.alloc w2 (.cells (cells4 q2) 25))
  replace ho2 := fun i hi => (ho2 i hi).le (Le.alloc w2 (.cells (cells4 q2) 25))
  clear x0 x1 x2 x3 y0 y1 y2
  obtain ⟨y0, y1, y2, _, _, _⟩ := (hb2.le l2).op
  obtain ⟨x0, x1, x2, x3, _, _, _, _⟩ := (hb1.le l2).st
  go_wp2_with fail
  refine (refObj o (stV vs) s c r a 600 _ (hx0.le (hl.trans l2)) hf).mono ?_
  rw [← hS1]
  rintro e w3 ⟨_, rfl, ⟨q3, rfl, ho3⟩, l3⟩
  have hb5 := Box.new w3 (cells4 q3) 25
  replace l3 := l3.trans (Le.alloc w3 (.cells (cells4 q3) 25))
  replace ho3 := fun i hi => (ho3 i hi).le (Le.alloc w3 (.cells (cells4 q3) 25))
  replace ho2 := fun i hi => (ho2 i hi).le l3
  replace hb4 := hb4.le l3
  replace l2 := l2.trans l3
  clear l3 x0 x1 x2 x3 y0 y1 y2
  clear hS1
  go_upto_region 4 with fail
  generalize hW : w3.alloc (.cells (cells4 q3) 25) = W3 at hb4 hb5 l2 ho2 ho3 ⊢
  clear hW
  obtain ⟨y0, y1, y2, y3⟩ := hb4.laterSt
  obtain ⟨x0, x1, x2, x3⟩ := hb5.laterSt
  obtain ⟨z0, z1, z2, z3⟩ := (hb3.le l2).laterSt
  obtain ⟨t0, t1, t2, t3⟩ := (hb1.le l2).laterSt
  have hsame := fun X : Later W3 => lawSameState (stV q2) (stV q3) S1.1 S1.1 X.w (OwnS.has ⟨q2, rfl, fun i hi => (ho2 i hi).le X.le⟩) (OwnS.has ⟨q3, rfl, fun i hi => (ho3 i hi).le X.le⟩) hfS
  rw [show decide (S1.1 = S1.1) = true by simp] at hsame
  have hmayA := fun X : Later W3 => objMayC o (stV us) s X.w (hx1.le (l2.trans X.le)) hf
  have hmayB := fun X : Later W3 => refStateMay o (stV vs) s X.w (hx0.le (hl.trans (l2.trans X.le))) hf
  generalize objMay o s = m at hmayA hmayB
  refine wp_region_later (by kernel_rfl) (by kernel_rfl) ?_
  repeat (go_big_quiet_step (first | (go_at_call 10; exact Calls.later (hsame _)) | (go_at_call 11; exact Calls.later_same (lawNum _ _)) | (go_at_call 12; exact Calls.later (hmayA _)) | (go_at_call 13; exact Calls.later (hmayB _))))
  refine wpQuiet_nil ?_
  rintro _ ⟨X, rfl⟩
  clear hsame hmayA hmayB x0 x1 x2 x3 y0 y1 y2 y3 z0 z1 z2 z3 t0 t1 t2 t3
  replace hb4 := hb4.le X.le
  replace l2 := l2.trans X.le
  replace ho2 := fun i hi => (ho2 i hi).le X.le
  clear ho3 hb5
  obtain ⟨y0, y1, y2, y3, _, _, _, _⟩ := hb4.st
  go_wp2_with fail
  refine (lawSpoilState (stV q2) W.heap.size _ (OwnS.ints ⟨q2, rfl, ho2⟩) l2.size).mono ?_
  rintro e w7 ⟨rfl, s5⟩
  replace l2 : Le W w7 := Below.trans l2 s5.below
  clear y0 y1 y2 y3 ho2 hb4 s5
  obtain ⟨y0, y1, y2, y3, _, _, _, _⟩ := (hb3.le l2).st
  obtain ⟨x0, x1, x2, x3, _, _, _, _⟩ := (hb1.le l2).st
  go_wp2_with fail
  refine (lawSameState (stV us) (stV vs) s s _ (hx1.le l2) (hx0.le (hl.trans l2)) hf).mono ?_
  rw [show decide (s = s) = true by simp]
  rintro e w8 ⟨rfl, l6⟩
  go_wp2_with fail
  refine (lawAwake6 _).mono ?_
  rintro e w9 ⟨rfl, l7⟩
  go_wp2_with fail
  go_ret
  exact ⟨rfl, ((hl.trans l2).trans l6).trans l7⟩

end Go.Proofs.Ytmfjiadamdajeaa
