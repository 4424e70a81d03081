/-
  THE WALK over choruslaw8.Commutes: it answers true, for every object, state and operations, and turns nothing that was there. Condition: the state's rows can be copied.
-/
import Derived.Test.YtphphppohagniaaComAwake
import Derived.Test.YtphphppohagniaaRefBoth
import Derived.Test.YtphphppohagniaaStC
namespace Go.Proofs.Ytphphppohagniaa
open Go.RowKit

set_option maxRecDepth 4000 in
set_option maxHeartbeats 2000000 in
theorem lawCommutes (w : World) (o : Int) (v : Value) (s : St) (hx : HasS w v s) (hf : Fit s) (c r a c' r' a' : Int) :
    Calls Try.prog 3 #[.int .i64 o, v, opV c r a, opV c' r' a'] w fun e w' => e = .returned (.bool true) ∧ Le w w' := by
  have hx0 := hx
  obtain ⟨vs, rfl, hr⟩ := hx
  obtain ⟨W, hW, hn, hl, hb1, hb2, hb3⟩ := lay3 w vs c r a c' r' a'
  have hcp := fun (w' : World) (h : Le w w') => lawCopyState (stV vs) s w' (hx0.le h) hf
  have hap := fun (w' : World) (v' : Value) (h : HasS w' v' s) => comBoth o v' s c r a c' r' a' w' h hf
  have haq := fun (w' : World) (h : Le w w') => refBoth o (stV vs) s c r a c' r' a' w' (hx0.le h) hf
  have hsm := fun (w' : World) (v' : Value) (h : HasS w' v' s) (hl : Le w w') => lawSameState v' (stV vs) s s w' h (hx0.le hl) hf
  rw [show decide (s = s) = true by simp] at hsm
  generalize bothS o s c r a c' r' a' = A at hap haq
  obtain ⟨b, e1⟩ := A
  simp only at hap haq
  cases b
  all_goals
    go_enter Try.func3, Try.ntmps3
    go_upto_region 1 with fail
    clear hW hn hr
    obtain ⟨y0, y1, y2, y3, _, _, _, _⟩ := hb1.st
    go_wp2_with fail
    refine (hcp _ hl).mono ?_
    rintro e w1 ⟨_, rfl, ⟨q1, rfl, o1⟩, l1⟩
    have hb4 := Box.new w1 (cells4 q1) 25
    have h4 : HasS (w1.alloc (.cells (cells4 q1) 25)) (stV q1) s := OwnS.has ⟨q1, rfl, fun i hi => (o1 i hi).le (Le.alloc _ _)⟩
    replace l1 := l1.trans (Le.alloc w1 (.cells (cells4 q1) 25))
    replace hl := hl.trans l1
    replace hb1 := hb1.le l1
    replace hb2 := hb2.le l1
    replace hb3 := hb3.le l1
    clear y0 y1 y2 y3 hcp o1 l1
    go_upto_region 2 with fail
    generalize hW : w1.alloc (.cells (cells4 q1) 25) = W1 at hb1 hb2 hb3 hb4 h4 hl ⊢
    generalize w1.heap.size = g4 at hb4 ⊢
    clear hW
    obtain ⟨y0, y1, y2, y3, _, _, _, _⟩ := hb4.st
    obtain ⟨x0, x1, x2, _, _, _⟩ := hb2.op
    obtain ⟨z0, z1, z2, _, _, _⟩ := hb3.op
    go_wp2_with fail
    refine (hap _ _ h4).mono ?_
    rintro e w2 ⟨rfl, l2⟩
    replace hl := hl.trans l2
    replace hb1 := hb1.le l2
    replace hb2 := hb2.le l2
    replace hb3 := hb3.le l2
    replace hb4 := hb4.le l2
    replace h4 := h4.le l2
    clear y0 y1 y2 y3 x0 x1 x2 z0 z1 z2 l2 hap
    obtain ⟨y0, y1, y2, y3, _, _, _, _⟩ := hb1.st
    obtain ⟨x0, x1, x2, _, _, _⟩ := hb2.op
    obtain ⟨z0, z1, z2, _, _, _⟩ := hb3.op
    go_wp2_with fail
    refine (haq _ hl).mono ?_
    rintro e w3 ⟨rfl, l3⟩
    replace hl := hl.trans l3
    replace hb1 := hb1.le l3
    replace hb4 := hb4.le l3
    replace h4 := h4.le l3
    clear y0 y1 y2 y3 x0 x1 x2 z0 z1 z2 l3 haq hb2 hb3
    obtain ⟨y0, y1, y2, y3, _, _, _, _⟩ := hb1.st
    obtain ⟨x0, x1, x2, x3, _, _, _, _⟩ := hb4.st
    go_wp2_with (first | (go_at_call 11; refine (lawNum _ _).mono ?_; rintro e _ ⟨rfl, rfl⟩) | (go_at_call 12; refine (hsm _ _ h4 hl).mono ?_; rintro e w4 ⟨rfl, l4⟩) | (go_at_call 13; refine (lawAwake8 _).mono ?_; rintro e w5 ⟨rfl, l5⟩))
    go_ret
    exact ⟨rfl, hl.trans (l4.trans l5)⟩

end Go.Proofs.Ytphphppohagniaa
