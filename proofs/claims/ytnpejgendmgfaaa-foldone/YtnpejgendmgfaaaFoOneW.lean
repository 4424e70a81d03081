/-
  THE WALK over choruslaw12.FoldOne: it answers true, for every object, state and operation, and turns nothing that was there. Condition: the state's rows can be copied.
-/
import Derived.Test.YtnpejgendmgfaaaFoC
import Derived.Test.YtnpejgendmgfaaaRefObj
namespace Go.Proofs.Ytnpejgendmgfaaa
open Go.RowKit

/-- The three ways that it goes. -/
theorem one_cases (o : Int) (s : St) (p : Opr) : ∃ a1 xs e1 b1 x f c1 ys g, foldS o s [p] 1200 = (a1, xs, e1) ∧ objS o s p.c p.r p.a 1200 = (b1, x, f) ∧ foldS o s [] 1200 = (c1, ys, g) ∧
    Hid ((objMay o s = false ∧ e1 = 1200 ∧ g = 1200) ∨ (objMay o s = true ∧ f = 1200 ∧ e1 = 1200 ∧ xs = []) ∨ (objMay o s = true ∧ f = 0 ∧ e1 = 0 ∧ a1 = b1 ∧ xs = [x] ∧ g = 0 ∧ c1 = s ∧ ys = [])) := by
  cases hm : objMay o s
  · exact ⟨_, _, _, _, _, _, _, _, _, foldS_no 1200 (by simp [foldMay, hm]), rfl, foldS_no 1200 (by simp [foldMay, hm]), .inl ⟨rfl, rfl, rfl⟩⟩
  · cases hp : p.may
    · exact ⟨_, _, _, _, _, _, _, _, _, foldS_no 1200 (by simp [foldMay, opsMay, hp]), objS_bad 1200 hp, foldS_yes 1200 (by simp [foldMay, opsMay, hm]), .inr (.inl ⟨rfl, rfl, rfl, rfl⟩)⟩
    · exact ⟨_, _, _, _, _, _, _, _, _, foldS_yes 1200 (by simp [foldMay, opsMay, hm, hp]), objS_step 1200 hm hp, foldS_yes 1200 (by simp [foldMay, opsMay, hm]), .inr (.inr ⟨rfl, rfl, rfl, rfl, rfl, rfl, rfl, rfl⟩)⟩

set_option maxRecDepth 4000 in
set_option maxHeartbeats 2000000 in
theorem lawFoldOne (w : World) (o : Int) (v : Value) (s : St) (hx : HasS w v s) (hf : Fit s) (c r a : Int) :
    Calls Try.prog 6 #[.int .i64 o, v, opV c r a] w fun e w' => e = .returned (.bool true) ∧ Le w w' := by
  obtain ⟨vs, rfl, hr⟩ := hx
  have hl := (Le.alloc w (.cells (cells4 vs) 25)).trans (Le.alloc _ (.cells #[.int .i64 c, .int .i64 r, .int .i64 a] 43))
  have hb1 := (Box.new w (cells4 vs) 25).le (Le.alloc _ (.cells #[.int .i64 c, .int .i64 r, .int .i64 a] 43))
  have hb2 := Box.new (w.alloc (.cells (cells4 vs) 25)) #[.int .i64 c, .int .i64 r, .int .i64 a] 43
  simp only [World.size_alloc] at hb1 hb2
  have hx : HasS _ (stV vs) s := HasS.le ⟨vs, rfl, hr⟩ hl
  clear hr
  obtain ⟨a1, xs, e1, b1, x, f, c1, ys, g, hS1, hS2, hS3, HC⟩ := one_cases o s ⟨c, r, a⟩
  have hfb : Fit b1 := by have := hf.obj o c r a 1200; rw [show objS o s c r a 1200 = _ from hS2] at this; exact this
  have hfa := foldS_fit hf hS1
  have hfc := foldS_fit hf hS3
  have hxl := foldS_lens hS1
  have hRef := fun w' (h : HasS w' (stV vs) s) => refObj o (stV vs) s c r a 1200 w' h hf
  rw [show objS o s c r a 1200 = _ from hS2] at hRef
  simp only at hRef
  have hF1 := fun w' (h : HasS w' (stV vs) s) => foldAs (o := o) h hf (HasO.nil0 w') (by decide) hS3
  have hF0 := fun w' (h : HasS (w'.alloc _) (stV vs) s) => foldAs (o := o) h hf (HasO.lit1 w' ⟨c, r, a⟩) (by simp) hS1
  have hM := fun w' (h : HasS w' (stV vs) s) => refStateMay o (stV vs) s w' h hf
  clear hS1 hS2 hS3
  have HM : Hid (objMay o s = objMay o s) := rfl
  go_enter Try.func6, Try.ntmps6
  go_wp2_with fail
  refine (lawAwake12 _).mono ?_
  rintro e w0 ⟨rfl, l0⟩
  replace hl := hl.trans l0
  replace hb1 := hb1.le l0
  replace hb2 := hb2.le l0
  replace hx := hx.le l0
  clear l0
  obtain ⟨x0, x1, x2, x3, _, _, _, _⟩ := hb1.st
  obtain ⟨y0, y1, y2, _, _, _⟩ := hb2.op
  go_wp2_with fail
  refine (hF0 w0 (hx.le (Le.alloc _ _))).mono ?_
  rintro e w1 ⟨q1, z1, rfl, h1, i1, l1⟩
  have hA := Le.alloc w1 (.cells (cells4 q1) 25)
  have b1' := Box.new w1 (cells4 q1) 25
  replace l1 := ((Le.alloc w0 _).trans l1).trans hA
  replace h1 := h1.le hA
  replace i1 := i1.has.le hA
  replace hl := hl.trans l1
  replace hb1 := hb1.le l1
  replace hb2 := hb2.le l1
  replace hx := hx.le l1
  clear hA l1 x0 x1 x2 x3 y0 y1 y2 hF0
  go_upto_region 4 with fail
  generalize hW : w1.alloc (.cells (cells4 q1) 25) = W1 at hl hb1 hb2 hx b1' h1 i1 ⊢
  generalize w1.heap.size = g1 at b1' ⊢
  clear hW
  obtain ⟨x0, x1, x2, x3, _, _, _, _⟩ := hb1.st
  obtain ⟨y0, y1, y2, _, _, _⟩ := hb2.op
  go_wp2_with fail
  refine (hRef W1 hx).mono ?_
  rintro e w2 ⟨_, rfl, ⟨q2, rfl, h2⟩, l2⟩
  have hA := Le.alloc w2 (.cells (cells4 q2) 25)
  have b2' := Box.new w2 (cells4 q2) 25
  replace l2 := l2.trans hA
  have h2' : HasS _ (stV q2) b1 := HasS.le ⟨q2, rfl, fun i hi => (h2 i hi).has⟩ hA
  replace h1 := h1.le l2
  replace i1 := i1.le l2
  replace b1' := b1'.le l2
  replace hl := hl.trans l2
  replace hb1 := hb1.le l2
  replace hx := hx.le l2
  clear hA l2 x0 x1 x2 x3 y0 y1 y2 hRef hb2 h2
  go_upto_region 5 with fail
  generalize hW : w2.alloc (.cells (cells4 q2) 25) = W2 at hl hb1 hx b1' h1 i1 b2' h2' ⊢
  generalize w2.heap.size = g2 at b2' ⊢
  clear hW
  obtain ⟨x0, x1, x2, x3, _, _, _, _⟩ := hb1.st
  go_wp2_with fail
  refine (hF1 W2 hx).mono ?_
  rintro e w3 ⟨q3, z3, rfl, h3, i3, l3⟩
  have hA := Le.alloc w3 (.cells (cells4 q3) 25)
  have b3' := Box.new w3 (cells4 q3) 25
  replace l3 := l3.trans hA
  replace h3 := h3.le hA
  replace i3 := i3.has.le hA
  replace h1 := h1.le l3
  replace i1 := i1.le l3
  replace h2' := h2'.le l3
  replace b1' := b1'.le l3
  replace b2' := b2'.le l3
  replace hl := hl.trans l3
  replace hb1 := hb1.le l3
  replace hx := hx.le l3
  clear hA l3 x0 x1 x2 x3 hF1
  go_upto_region 6 with fail
  generalize hW : w3.alloc (.cells (cells4 q3) 25) = W3 at hl hb1 hx b1' h1 i1 b2' h2' h3 i3 b3' ⊢
  generalize w3.heap.size = g3 at b3' ⊢
  clear hW
  obtain ⟨x0, x1, x2, x3, _, _, _, _⟩ := hb1.st
  have hM3 := hM W3 hx
  rcases HC with ⟨hm, rfl, rfl⟩ | ⟨hm, rfl, rfl, rfl⟩ | ⟨hm, rfl, rfl, rfl, rfl, rfl, rfl, rfl⟩
  · rw [hm] at hM3
    go_wp2_with fail
    refine hM3.mono ?_
    rintro e w4 ⟨rfl, l4⟩
    go_wp2_with (go_at_call 15; refine (lawNum _ _).mono ?_; rintro e _ ⟨rfl, rfl⟩)
    go_ret
    exact ⟨rfl, hl.trans l4⟩
  · rw [hm] at hM3
    obtain ⟨az, cz, hz⟩ := i1.shape
    rw [hz]
    go_wp2_with fail
    refine hM3.mono ?_
    rintro e w4 ⟨rfl, l4⟩
    go_wp2_with (go_at_call 15; refine (lawNum _ _).mono ?_; rintro e _ ⟨rfl, rfl⟩)
    go_ret
    exact ⟨rfl, hl.trans l4⟩
  · rw [hm] at hM3
    obtain ⟨az, cz, hz⟩ := i3.shape
    rw [hz]
    go_wp2_with fail
    refine hM3.mono ?_
    rintro e w4 ⟨rfl, l4⟩
    replace hl := hl.trans l4
    clear x0 x1 x2 x3
    obtain ⟨x0, x1, x2, x3, _, _, _, _⟩ := (b1'.le l4).st
    obtain ⟨y0, y1, y2, y3, _, _, _, _⟩ := (b2'.le l4).st
    go_wp2_with (go_at_call 15; refine (lawNum _ _).mono ?_; rintro e _ ⟨rfl, rfl⟩)
    refine (lawSameState (stV q1) (stV q2) a1 a1 _ (h1.le l4) (h2'.le l4) hfa).mono ?_
    rw [show decide (a1 = a1) = true by simp]
    rintro e w5 ⟨rfl, l5⟩
    have l45 := l4.trans l5
    go_wp2_with fail
    refine (lawSameInts (slV z1) _ [x] [x] _ ((i1.le l45).le (Le.alloc _ _)) (Has.lit1 w5 x) (by simp)).mono ?_
    rw [show decide ([x] = [x]) = true by simp]
    rintro e _ ⟨rfl, n6, rfl⟩
    have l6 := l45.trans ((Le.alloc w5 (.cells #[.int .i64 x] 3)).trans (Le.drewN _ n6))
    replace hl := (hl.trans l5).trans ((Le.alloc w5 (.cells #[.int .i64 x] 3)).trans (Le.drewN _ n6))
    generalize hW : (w5.alloc (.cells #[.int .i64 x] 3)).drewN n6 = W6 at l6 hl ⊢
    clear hW x0 x1 x2 x3 y0 y1 y2 y3
    obtain ⟨x0, x1, x2, x3, _, _, _, _⟩ := (b3'.le l6).st
    obtain ⟨y0, y1, y2, y3, _, _, _, _⟩ := (hb1.le l6).st
    go_wp2_with (go_at_call 15; refine (lawNum _ _).mono ?_; rintro e _ ⟨rfl, rfl⟩)
    refine (lawSameState (stV q3) (stV vs) c1 c1 _ (h3.le l6) (hx.le l6) hfc).mono ?_
    rw [show decide (c1 = c1) = true by simp]
    rintro e w7 ⟨rfl, l7⟩
    go_wp2_with fail
    go_ret
    exact ⟨rfl, hl.trans l7⟩

end Go.Proofs.Ytnpejgendmgfaaa
