/-
  THE WALK over choruslaw8.CommuteSame: it answers true, for every object, state and operation, and turns nothing that was there. Condition: the state's rows can be copied.
-/
import Derived.Test.YtphphppohagniaaComAwake
import Derived.Test.YtphphppohagniaaRefObj
namespace Go.Proofs.Ytphphppohagniaa
open Go.RowKit

theorem bothMay_self (o : Int) (s : St) (c r a : Int) : bothMay o s c r a c r a = (objMay o s && opMay c r a) := by
  unfold bothMay; cases objMay o s <;> cases opMay c r a <;> rfl
theorem bothB_self (o : Int) (s : St) (c r a : Int) : bothB o s c r a c r a = ((objS o s c r a 0).2.1 == (objS o (objS o s c r a 0).1 c r a 0).2.1) := by
  unfold bothB
  rw [show decide ((objS o (objS o s c r a 0).1 c r a 0).1 = (objS o (objS o s c r a 0).1 c r a 0).1) = true by simp, Bool.true_and, Bool.and_self]
  rfl

set_option maxRecDepth 4000 in
set_option maxHeartbeats 2000000 in
theorem lawSame8 (w : World) (o : Int) (v : Value) (s : St) (hx : HasS w v s) (hf : Fit s) (c r a : Int) :
    Calls Try.prog 7 #[.int .i64 o, v, opV c r a] w fun e w' => e = .returned (.bool true) ∧ Le w w' := by
  have hx0 := hx
  obtain ⟨vs, rfl, hr⟩ := hx
  have hl := (Le.alloc w (.cells (cells4 vs) 25)).trans (Le.alloc _ (.cells #[.int .i64 c, .int .i64 r, .int .i64 a] 27))
  have hb1 := (Box.new w (cells4 vs) 25).le (Le.alloc _ (.cells #[.int .i64 c, .int .i64 r, .int .i64 a] 27))
  have hb2 := Box.new (w.alloc (.cells (cells4 vs) 25)) #[.int .i64 c, .int .i64 r, .int .i64 a] 27
  simp only [World.size_alloc] at hb1 hb2
  have hap := fun (w' : World) (h : Le w w') => comBoth o (stV vs) s c r a c r a w' (hx0.le h) hf
  have haq := fun (w' : World) (h : Le w w') => refObj o (stV vs) s c r a 600 w' (hx0.le h) hf
  cases hmo : objMay o s && opMay c r a
  · rw [bothS_no ((bothMay_self o s c r a).trans hmo)] at hap
    rw [objS_no hmo] at haq
    simp only at hap haq
    clear hmo
    go_enter Try.func7, Try.ntmps7
    go_wp2_with fail
    refine (lawAwake8 _).mono ?_
    rintro e w1 ⟨rfl, l1⟩
    replace hl := hl.trans l1
    replace hb1 := hb1.le l1
    replace hb2 := hb2.le l1
    clear l1
    obtain ⟨y0, y1, y2, y3, _, _, _, _⟩ := hb1.st
    obtain ⟨x0, x1, x2, _, _, _⟩ := hb2.op
    go_wp2_with fail
    refine (hap _ hl).mono ?_
    rintro e w2 ⟨rfl, l2⟩
    replace hl := hl.trans l2
    replace hb1 := hb1.le l2
    replace hb2 := hb2.le l2
    clear l2 hap y0 y1 y2 y3 x0 x1 x2
    obtain ⟨y0, y1, y2, y3, _, _, _, _⟩ := hb1.st
    obtain ⟨x0, x1, x2, _, _, _⟩ := hb2.op
    go_wp2_with fail
    refine (haq _ hl).mono ?_
    rintro e w3 ⟨_, rfl, ⟨q3, rfl, o3⟩, l3⟩
    replace l3 := l3.trans (Le.alloc w3 (.cells (cells4 q3) 25))
    replace hl := hl.trans l3
    clear l3 haq y0 y1 y2 y3 x0 x1 x2 o3 hb1 hb2
    go_wp2_with (go_at_call 11; refine (lawNum _ _).mono ?_; rintro e _ ⟨rfl, rfl⟩)
    go_ret
    exact ⟨rfl, hl⟩
  · rw [bothS_yes ((bothMay_self o s c r a).trans hmo), bothB_self] at hap
    obtain ⟨hm, ho⟩ := Bool.and_eq_true_iff.mp hmo
    rw [objS_er 600 0 hm ho] at haq
    have e1 := objS_ok 0 hm ho
    have m1 := objS_may 0 hm ho
    have e2 := objS_ok 0 m1 ho
    have hf1 := hf.obj o c r a 0
    have hat := fun (w' : World) (v' : Value) (h : HasS w' v' (objS o s c r a 0).1) => refObj o v' (objS o s c r a 0).1 c r a 600 w' h hf1
    rw [objS_er 600 0 m1 ho] at hat
    generalize objS o (objS o s c r a 0).1 c r a 0 = B at hap hat e2
    generalize objS o s c r a 0 = A at hap haq hat e1 m1 hf1
    obtain ⟨s1, x, _⟩ := A
    obtain ⟨s2, y, _⟩ := B
    simp only at hap haq hat e1 e2 m1 hf1
    subst e1 e2
    clear hmo hm ho m1 hf1
    cases hxy : (x == y)
    all_goals
      rw [hxy] at hap
      go_enter Try.func7, Try.ntmps7
      go_wp2_with fail
      refine (lawAwake8 _).mono ?_
      rintro e w1 ⟨rfl, l1⟩
      replace hl := hl.trans l1
      replace hb1 := hb1.le l1
      replace hb2 := hb2.le l1
      clear l1
      obtain ⟨y0, y1, y2, y3, _, _, _, _⟩ := hb1.st
      obtain ⟨x0, x1, x2, _, _, _⟩ := hb2.op
      go_wp2_with fail
      refine (hap _ hl).mono ?_
      rintro e w2 ⟨rfl, l2⟩
      replace hl := hl.trans l2
      replace hb1 := hb1.le l2
      replace hb2 := hb2.le l2
      clear l2 hap y0 y1 y2 y3 x0 x1 x2
      obtain ⟨y0, y1, y2, y3, _, _, _, _⟩ := hb1.st
      obtain ⟨x0, x1, x2, _, _, _⟩ := hb2.op
      go_wp2_with fail
      refine (haq _ hl).mono ?_
      rintro e w3 ⟨_, rfl, ⟨q3, rfl, o3⟩, l3⟩
      have hb3 := Box.new w3 (cells4 q3) 25
      have h3 : HasS (w3.alloc (.cells (cells4 q3) 25)) (stV q3) s1 := OwnS.has ⟨q3, rfl, fun i hi => (o3 i hi).le (Le.alloc _ _)⟩
      replace l3 := l3.trans (Le.alloc w3 (.cells (cells4 q3) 25))
      replace hl := hl.trans l3
      replace hb2 := hb2.le l3
      clear l3 haq y0 y1 y2 y3 x0 x1 x2 o3 hb1
      go_upto_region 5 with fail
      generalize hW : w3.alloc (.cells (cells4 q3) 25) = W3 at hb2 hb3 h3 hl ⊢
      generalize w3.heap.size = g3 at hb3 ⊢
      clear hW
      obtain ⟨y0, y1, y2, y3, _, _, _, _⟩ := hb3.st
      obtain ⟨x0, x1, x2, _, _, _⟩ := hb2.op
      go_wp2_with fail
      refine (hat _ _ h3).mono ?_
      rintro e w4 ⟨_, rfl, ⟨q4, rfl, o4⟩, l4⟩
      replace l4 := l4.trans (Le.alloc w4 (.cells (cells4 q4) 25))
      replace hl := hl.trans l4
      clear l4 hat y0 y1 y2 y3 x0 x1 x2 o4 hb2 hb3 h3
      go_wp2_with (go_at_call 11; refine (lawNum _ _).mono ?_; rintro e _ ⟨rfl, rfl⟩)
      go_ret
      exact ⟨rfl, hl⟩

end Go.Proofs.Ytphphppohagniaa
