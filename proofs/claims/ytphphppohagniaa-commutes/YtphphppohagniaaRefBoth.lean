/-
  THE WALK over the document's own Both: what it answers, for every object, state and operations. Condition: the state's rows can be copied.
-/
import Derived.Test.YtphphppohagniaaComS
import Derived.Test.YtphphppohagniaaComB
import Derived.Test.YtphphppohagniaaRefSame
import Derived.Test.YtphphppohagniaaRefObj
namespace Go.Proofs.Ytphphppohagniaa
open Go.RowKit

theorem objS_err_of (o : Int) (s : St) (c r a er : Int) : (objS o s c r a er).2.2 = if (objMay o s && opMay c r a) then 0 else er := by
  cases h : objMay o s && opMay c r a
  · rw [objS_no h]; rfl
  · rw [objS_yes er h]; rfl

set_option maxRecDepth 4000 in
set_option maxHeartbeats 2000000 in
theorem refBothNo (o : Int) (v : Value) (s : St) (c r a c' r' a' : Int) (w : World) (hx : HasS w v s) (hf : Fit s) (hm : bothMay o s c r a c' r' a' = false) :
    Calls Try.prog 10 #[.int .i64 o, v, opV c r a, opV c' r' a'] w fun e w' => e = .returned (.tuple #[.bool false, .int .i64 800]) ∧ Le w w' := by
  have hx0 := hx
  obtain ⟨vs, rfl, hr⟩ := hx
  obtain ⟨W, hW, hn, hl, hb1, hb2, hb3⟩ := lay3 w vs c r a c' r' a'
  have hap := fun (w' : World) (h : Le w w') => refObj o (stV vs) s c r a 800 w' (hx0.le h) hf
  have haq := fun (w' : World) (h : Le w w') => refObj o (stV vs) s c' r' a' 800 w' (hx0.le h) hf
  have hno : ((objS o s c r a 800).2.2 = 800) ∨ ((objS o s c r a 800).2.2 = 0 ∧ (objS o s c' r' a' 800).2.2 = 800) := by
    rw [objS_err_of, objS_err_of]
    unfold bothMay at hm
    revert hm
    cases objMay o s <;> cases opMay c r a <;> cases opMay c' r' a' <;> simp
  generalize objS o s c r a 800 = A at hap hno
  generalize objS o s c' r' a' 800 = B at haq hno
  obtain ⟨s1, x, e1⟩ := A
  obtain ⟨s2, y, e2⟩ := B
  simp only at hap haq hno
  clear hm
  rcases hno with rfl | ⟨rfl, rfl⟩
  all_goals
    go_enter Try.func10, Try.ntmps10
    go_upto_region 1 with fail
    clear hW hn hr
    obtain ⟨y0, y1, y2, y3, _, _, _, _⟩ := hb1.st
    obtain ⟨x0, x1, x2, _, _, _⟩ := hb2.op
    go_wp2_with fail
    refine (hap _ hl).mono ?_
    rintro e w1 ⟨_, rfl, ⟨q1, rfl, o1⟩, l1⟩
    replace l1 := l1.trans (Le.alloc w1 (.cells (cells4 q1) 25))
    replace hl := hl.trans l1
    replace hb1 := hb1.le l1
    replace hb3 := hb3.le l1
    clear y0 y1 y2 y3 x0 x1 x2 hap o1 l1 hb2
    go_upto_region 2 with fail
    generalize hW : w1.alloc (.cells (cells4 q1) 25) = W1 at hb1 hb3 hl ⊢
    clear hW
    obtain ⟨y0, y1, y2, y3, _, _, _, _⟩ := hb1.st
    obtain ⟨x0, x1, x2, _, _, _⟩ := hb3.op
    go_wp2_with fail
    refine (haq _ hl).mono ?_
    rintro e w2 ⟨_, rfl, ⟨q2, rfl, o2⟩, l2⟩
    replace l2 := l2.trans (Le.alloc w2 (.cells (cells4 q2) 25))
    replace hl := hl.trans l2
    clear y0 y1 y2 y3 x0 x1 x2 haq o2 l2 hb1 hb3
    go_wp2_with fail
    go_ret2
    exact ⟨rfl, hl⟩

set_option maxRecDepth 4000 in
set_option maxHeartbeats 4000000 in
theorem refBothYes (o : Int) (v : Value) (s : St) (c r a c' r' a' : Int) (w : World) (hx : HasS w v s) (hf : Fit s) (hm : bothMay o s c r a c' r' a' = true) :
    Calls Try.prog 10 #[.int .i64 o, v, opV c r a, opV c' r' a'] w fun e w' => e = .returned (.tuple #[.bool (bothB o s c r a c' r' a'), .int .i64 0]) ∧ Le w w' := by
  have hx0 := hx
  obtain ⟨vs, rfl, hr⟩ := hx
  obtain ⟨W, hW, hn, hl, hb1, hb2, hb3⟩ := lay3 w vs c r a c' r' a'
  obtain ⟨hm0, ha, hb⟩ := bothMay_parts hm
  have hap := fun (w' : World) (h : Le w w') => refObj o (stV vs) s c r a 800 w' (hx0.le h) hf
  have haq := fun (w' : World) (h : Le w w') => refObj o (stV vs) s c' r' a' 800 w' (hx0.le h) hf
  have hf1 := hf.obj o c r a 0
  have hf2 := hf.obj o c' r' a' 0
  have hat := fun (w' : World) (v' : Value) (h : HasS w' v' (objS o s c r a 0).1) => refObj o v' (objS o s c r a 0).1 c' r' a' 800 w' h hf1
  have hau := fun (w' : World) (v' : Value) (h : HasS w' v' (objS o s c' r' a' 0).1) => refObj o v' (objS o s c' r' a' 0).1 c r a 800 w' h hf2
  have hf3 := hf1.obj o c' r' a' 0
  rw [objS_er 800 0 hm0 ha] at hap
  rw [objS_er 800 0 hm0 hb] at haq
  rw [objS_er 800 0 (objS_may 0 hm0 ha) hb] at hat
  rw [objS_er 800 0 (objS_may 0 hm0 hb) ha] at hau
  have e1 := objS_ok 0 hm0 ha
  have e2 := objS_ok 0 hm0 hb
  unfold bothB
  generalize objS o (objS o s c r a 0).1 c' r' a' 0 = C at hat hf3 ⊢
  generalize objS o (objS o s c' r' a' 0).1 c r a 0 = D at hau ⊢
  generalize objS o s c r a 0 = A at hap hat hf1 e1 ⊢
  generalize objS o s c' r' a' 0 = B at haq hau hf2 e2 ⊢
  obtain ⟨s1, x, _⟩ := A
  obtain ⟨s2, y, _⟩ := B
  obtain ⟨s3, z, e3⟩ := C
  obtain ⟨s4, u, e4⟩ := D
  simp only at hap haq hat hau hf1 hf2 hf3 e1 e2 ⊢
  subst e1 e2
  clear hm hm0 ha hb hf1 hf2
  rw [show (decide (x = u)) = (x == u) from rfl, show (decide (y = z)) = (y == z) from rfl]
  have hsm := fun (w' : World) (v1 v2 : Value) (h1 : HasS w' v1 s3) (h2 : HasS w' v2 s4) => refSameState v1 v2 s3 s4 w' h1 h2 hf3
  generalize decide (s3 = s4) = b at hsm ⊢
  cases b
  all_goals cases hxu : (x == u)
  all_goals cases hyz : (y == z)
  all_goals
    go_enter Try.func10, Try.ntmps10
    go_upto_region 1 with fail
    clear hW hn hr
    obtain ⟨y0, y1, y2, y3, _, _, _, _⟩ := hb1.st
    obtain ⟨x0, x1, x2, _, _, _⟩ := hb2.op
    go_wp2_with fail
    refine (hap _ hl).mono ?_
    rintro e w1 ⟨_, rfl, ⟨q1, rfl, o1⟩, l1⟩
    have hb4 := Box.new w1 (cells4 q1) 25
    have h4 : HasS (w1.alloc (.cells (cells4 q1) 25)) (stV q1) s1 := OwnS.has ⟨q1, rfl, fun i hi => (o1 i hi).le (Le.alloc _ _)⟩
    replace l1 := l1.trans (Le.alloc w1 (.cells (cells4 q1) 25))
    replace hl := hl.trans l1
    replace hb1 := hb1.le l1
    replace hb2 := hb2.le l1
    replace hb3 := hb3.le l1
    clear y0 y1 y2 y3 x0 x1 x2 hap o1 l1
    go_upto_region 2 with fail
    generalize hW : w1.alloc (.cells (cells4 q1) 25) = W1 at hb1 hb2 hb3 hb4 h4 hl ⊢
    generalize w1.heap.size = g4 at hb4 ⊢
    clear hW
    obtain ⟨y0, y1, y2, y3, _, _, _, _⟩ := hb1.st
    obtain ⟨x0, x1, x2, _, _, _⟩ := hb3.op
    go_wp2_with fail
    refine (haq _ hl).mono ?_
    rintro e w2 ⟨_, rfl, ⟨q2, rfl, o2⟩, l2⟩
    have hb5 := Box.new w2 (cells4 q2) 25
    have h5 : HasS (w2.alloc (.cells (cells4 q2) 25)) (stV q2) s2 := OwnS.has ⟨q2, rfl, fun i hi => (o2 i hi).le (Le.alloc _ _)⟩
    replace l2 := l2.trans (Le.alloc w2 (.cells (cells4 q2) 25))
    replace hl := hl.trans l2
    replace hb2 := hb2.le l2
    replace hb3 := hb3.le l2
    replace hb4 := hb4.le l2
    replace h4 := h4.le l2
    clear y0 y1 y2 y3 x0 x1 x2 haq o2 l2 hb1
    go_upto_region 3 with fail
    generalize hW : w2.alloc (.cells (cells4 q2) 25) = W2 at hb2 hb3 hb4 hb5 h4 h5 hl ⊢
    generalize w2.heap.size = g5 at hb5 ⊢
    clear hW
    obtain ⟨y0, y1, y2, y3, _, _, _, _⟩ := hb4.st
    obtain ⟨x0, x1, x2, _, _, _⟩ := hb3.op
    go_wp2_with fail
    refine (hat _ _ h4).mono ?_
    rintro e w3 ⟨_, rfl, ⟨q3, rfl, o3⟩, l3⟩
    have hb6 := Box.new w3 (cells4 q3) 25
    have h6 : HasS (w3.alloc (.cells (cells4 q3) 25)) (stV q3) s3 := OwnS.has ⟨q3, rfl, fun i hi => (o3 i hi).le (Le.alloc _ _)⟩
    replace l3 := l3.trans (Le.alloc w3 (.cells (cells4 q3) 25))
    replace hl := hl.trans l3
    replace hb2 := hb2.le l3
    replace hb5 := hb5.le l3
    replace h5 := h5.le l3
    clear y0 y1 y2 y3 x0 x1 x2 hat o3 l3 hb3 hb4 h4
    go_upto_region 6 with fail
    generalize hW : w3.alloc (.cells (cells4 q3) 25) = W3 at hb2 hb5 hb6 h5 h6 hl ⊢
    generalize w3.heap.size = g6 at hb6 ⊢
    clear hW
    obtain ⟨y0, y1, y2, y3, _, _, _, _⟩ := hb5.st
    obtain ⟨x0, x1, x2, _, _, _⟩ := hb2.op
    go_wp2_with fail
    refine (hau _ _ h5).mono ?_
    rintro e w4 ⟨_, rfl, ⟨q4, rfl, o4⟩, l4⟩
    have hb7 := Box.new w4 (cells4 q4) 25
    have h7 : HasS (w4.alloc (.cells (cells4 q4) 25)) (stV q4) s4 := OwnS.has ⟨q4, rfl, fun i hi => (o4 i hi).le (Le.alloc _ _)⟩
    replace l4 := l4.trans (Le.alloc w4 (.cells (cells4 q4) 25))
    replace hl := hl.trans l4
    replace hb6 := hb6.le l4
    replace h6 := h6.le l4
    clear y0 y1 y2 y3 x0 x1 x2 hau o4 l4 hb2 hb5 h5
    go_upto_region 7 with fail
    generalize hW : w4.alloc (.cells (cells4 q4) 25) = W4 at hb6 hb7 h6 h7 hl ⊢
    generalize w4.heap.size = g7 at hb7 ⊢
    clear hW
    obtain ⟨y0, y1, y2, y3, _, _, _, _⟩ := hb6.st
    obtain ⟨z0, z1, z2, z3, _, _, _, _⟩ := hb7.st
    go_wp2_with (go_at_call 18; refine (hsm _ _ _ h6 h7).mono ?_; rintro e w5 ⟨rfl, l5⟩)
    go_ret2
    exact ⟨rfl, hl.trans l5⟩

theorem refBoth (o : Int) (v : Value) (s : St) (c r a c' r' a' : Int) (w : World) (hx : HasS w v s) (hf : Fit s) :
    Calls Try.prog 10 #[.int .i64 o, v, opV c r a, opV c' r' a'] w fun e w' => e = .returned (.tuple #[.bool (bothS o s c r a c' r' a').1, .int .i64 (bothS o s c r a c' r' a').2]) ∧ Le w w' := by
  cases hm : bothMay o s c r a c' r' a'
  · rw [bothS_no hm]; exact refBothNo o v s c r a c' r' a' w hx hf hm
  · rw [bothS_yes hm]; exact refBothYes o v s c r a c' r' a' w hx hf hm

end Go.Proofs.Ytphphppohagniaa
