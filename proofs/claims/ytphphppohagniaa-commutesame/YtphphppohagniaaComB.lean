/-
  THE WALKS over package commute's inTurn and Both: what each answers, for every object, state and operations. Condition: the state's rows can be copied.
-/
import Derived.Test.YtphphppohagniaaComA
import Derived.Test.YtphphppohagniaaComS
import Derived.Test.YtphphppohagniaaObjB
import Derived.Test.YtphphppohagniaaHasBox
namespace Go.Proofs.Ytphphppohagniaa
open Go.RowKit

/-- A state and two operations in variables. -/
theorem lay3 (w : World) (vs : Nat → Sl) (c r a c' r' a' : Int) : ∃ W : World, ((w.alloc (.cells (cells4 vs) 25)).alloc (.cells #[.int .i64 c, .int .i64 r, .int .i64 a] 27)).alloc (.cells #[.int .i64 c', .int .i64 r', .int .i64 a'] 27) = W ∧
    W.heap.size = w.heap.size + 1 + 1 + 1 ∧ Le w W ∧ Box W w.heap.size (cells4 vs) 25 ∧ Box W (w.heap.size + 1) #[.int .i64 c, .int .i64 r, .int .i64 a] 27 ∧ Box W (w.heap.size + 1 + 1) #[.int .i64 c', .int .i64 r', .int .i64 a'] 27 := by
  refine ⟨_, rfl, by simp only [World.size_alloc], ((Le.alloc _ _).trans (Le.alloc _ _)).trans (Le.alloc _ _), ((Box.new _ _ _).le (Le.alloc _ _)).le (Le.alloc _ _), ?_, ?_⟩
  · have := (Box.new (w.alloc (.cells (cells4 vs) 25)) #[.int .i64 c, .int .i64 r, .int .i64 a] 27).le (Le.alloc _ (.cells #[.int .i64 c', .int .i64 r', .int .i64 a'] 27))
    simpa only [World.size_alloc] using this
  · have := Box.new ((w.alloc (.cells (cells4 vs) 25)).alloc (.cells #[.int .i64 c, .int .i64 r, .int .i64 a] 27)) #[.int .i64 c', .int .i64 r', .int .i64 a'] 27
    simpa only [World.size_alloc] using this

theorem Own.set6 {w : World} {base g : Nat} {v : Value} {xs : List Int} {cs : Array Value} {t : TypeId} (h : Own w base v xs) (hb : Box w g cs t) (ht : t ≠ 3) (x0 x1 x2 x3 x4 x5 : Value) :
    Own ((((((w.setCell ⟨g, 0, none⟩ x0).setCell ⟨g, 1, none⟩ x1).setCell ⟨g, 2, none⟩ x2).setCell ⟨g, 3, none⟩ x3).setCell ⟨g, 4, none⟩ x4).setCell ⟨g, 5, none⟩ x5) base v xs :=
  (((((h.setBox hb ht).setBox (hb.set _ _) ht).setBox ((hb.set _ _).set _ _) ht).setBox (((hb.set _ _).set _ _).set _ _) ht).setBox ((((hb.set _ _).set _ _).set _ _).set _ _) ht).setBox (((((hb.set _ _).set _ _).set _ _).set _ _).set _ _) ht

set_option maxRecDepth 4000 in
set_option maxHeartbeats 2000000 in
theorem comInTurn (o : Int) (v : Value) (s : St) (c r a c' r' a' : Int) (w : World) (hx : HasS w v s) (hf : Fit s) :
    Calls Try.prog 15 #[.int .i64 o, v, opV c r a, opV c' r' a'] w fun e w' => ∃ q, e = .returned (.tuple #[pairV q (inS o s c r a c' r' a').2.1 (inS o s c r a c' r' a').2.2.1, .int .i64 (inS o s c r a c' r' a').2.2.2]) ∧ HasS w' (stV q) (inS o s c r a c' r' a').1 ∧ Le w w' := by
  have hx0 := hx
  obtain ⟨vs, rfl, hr⟩ := hx
  obtain ⟨W0, hW0, hn0, hl, hb1, hb2, hb3⟩ := lay3 w vs c r a c' r' a'
  have hb4 := Box.new W0 (cells6 (fun _ => slZ) 0 0) 48
  have hA := Le.alloc W0 (.cells (cells6 (fun _ => slZ) 0 0) 48)
  rw [hn0] at hb4
  replace hl := hl.trans hA
  replace hb1 := hb1.le hA
  replace hb2 := hb2.le hA
  replace hb3 := hb3.le hA
  clear hA
  have hf1 := hf.obj o c r a 600
  have hap := fun (w' : World) (h : Le w w') => objApply o (stV vs) s c r a w' (hx0.le h) hf
  have haq := fun (w' : World) (v' : Value) (h : HasS w' v' (objS o s c r a 600).1) => objApply o v' (objS o s c r a 600).1 c' r' a' w' h hf1
  unfold inS
  generalize objS o s c r a 600 = A at hap haq hf1 ⊢
  obtain ⟨s1, x, e1⟩ := A
  simp only at hap haq hf1 ⊢
  by_cases h1 : e1 = 0
  · subst h1
    rw [if_pos rfl]
    generalize objS o s1 c' r' a' 600 = B at haq ⊢
    obtain ⟨s2, y, e2⟩ := B
    simp only at haq ⊢
    go_enter Try.func15, Try.ntmps15
    go_upto_region 1 with fail
    generalize hW : W0.alloc (.cells (cells6 (fun _ => slZ) 0 0) 48) = W at hb1 hb2 hb3 hb4 hl ⊢
    clear hW hW0 hn0 hf1 hr
    obtain ⟨y0, y1, y2, y3, _, _, _, _⟩ := hb1.st
    obtain ⟨x0, x1, x2, _, _, _⟩ := hb2.op
    go_wp2_with fail
    refine (hap _ hl).mono ?_
    rintro e w1 ⟨_, rfl, ⟨q1, rfl, o1⟩, l1⟩
    have hb5 := Box.new w1 (cells4 q1) 25
    have h5 : HasS (w1.alloc (.cells (cells4 q1) 25)) (stV q1) s1 := OwnS.has ⟨q1, rfl, fun i hi => (o1 i hi).le (Le.alloc _ _)⟩
    replace l1 := l1.trans (Le.alloc w1 (.cells (cells4 q1) 25))
    replace hl := hl.trans l1
    replace hb3 := hb3.le l1
    replace hb4 := hb4.le l1
    clear y0 y1 y2 y3 x0 x1 x2 hap l1 o1 hb1 hb2
    go_upto_region 2 with fail
    generalize hW : w1.alloc (.cells (cells4 q1) 25) = W1 at hb3 hb4 hb5 hl h5 ⊢
    generalize w1.heap.size = g5 at hb5 ⊢
    clear hW
    obtain ⟨y0, y1, y2, y3, _, _, _, _⟩ := hb5.st
    obtain ⟨x0, x1, x2, _, _, _⟩ := hb3.op
    go_wp2_with fail
    refine (haq _ _ h5).mono ?_
    rintro e w2 ⟨_, rfl, ⟨q2, rfl, o2⟩, l2⟩
    have hb6 := Box.new w2 (cells4 q2) 25
    replace l2 := l2.trans (Le.alloc w2 (.cells (cells4 q2) 25))
    replace o2 := fun i hi => (o2 i hi).le (Le.alloc w2 (.cells (cells4 q2) 25))
    replace hl := hl.trans l2
    replace hb4 := hb4.le l2
    clear y0 y1 y2 y3 x0 x1 x2 haq l2 hb3 hb5 h5
    go_upto_region 5 with fail
    generalize hW : w2.alloc (.cells (cells4 q2) 25) = W2 at hb4 hb6 hl o2 ⊢
    generalize w2.heap.size = g6 at hb6 ⊢
    clear hW
    obtain ⟨y0, y1, y2, y3, _, _, _, _⟩ := hb6.st
    obtain ⟨d0, d1, d2, d3, d4, d5⟩ := hb4.pair
    obtain ⟨f0, f1, f2, f3, f4, f5⟩ := hb4.pairF
    go_wp2_with fail
    refine bodyPost_ret (v := .tuple #[pairV q2 x y, .int .i64 e2]) (by simp [results, Try.results15, go_sem, d0, d1, d2, d3, d4, d5]) rfl ⟨q2, rfl, OwnS.has (base := W1.heap.size) ⟨q2, rfl, fun i hi => ?_⟩, ?_⟩
    · exact (o2 i hi).set6 hb4 (by decide) _ _ _ _ _ _
    · exact hl.set6 (g := w.heap.size + 1 + 1 + 1) (by omega) _ _ _ _ _ _
  · rw [if_neg h1]
    clear haq hf1
    go_enter Try.func15, Try.ntmps15
    go_upto_region 1 with fail
    generalize hW : W0.alloc (.cells (cells6 (fun _ => slZ) 0 0) 48) = W at hb1 hb2 hb3 hb4 hl ⊢
    clear hW hW0 hn0 hr
    obtain ⟨y0, y1, y2, y3, _, _, _, _⟩ := hb1.st
    obtain ⟨x0, x1, x2, _, _, _⟩ := hb2.op
    go_wp2_with fail
    refine (hap _ hl).mono ?_
    rintro e w1 ⟨_, rfl, ⟨q1, rfl, o1⟩, l1⟩
    replace l1 := l1.trans (Le.alloc w1 (.cells (cells4 q1) 25))
    replace hl := hl.trans l1
    replace hb4 := hb4.le l1
    clear y0 y1 y2 y3 x0 x1 x2 hap l1 o1 hb1 hb2 hb3
    go_upto_region 2 with fail
    generalize hW : w1.alloc (.cells (cells4 q1) 25) = W1 at hb4 hl ⊢
    clear hW
    have he1 : (e1 != 0) = true := by simpa using h1
    obtain ⟨d0, d1, d2, d3, d4, d5⟩ := hb4.pair
    obtain ⟨f0, f1, f2, f3, f4, f5⟩ := hb4.pairF
    go_wp2_with fail
    refine bodyPost_ret (v := .tuple #[pairV (fun _ => slZ) 0 0, .int .i64 e1]) (by simp [results, Try.results15, go_sem, d0, d1, d2, d3, d4, d5]) rfl ⟨fun _ => slZ, rfl, HasS.zero _, ?_⟩
    exact hl.set6 (g := w.heap.size + 1 + 1 + 1) (by omega) _ _ _ _ _ _

set_option maxRecDepth 4000 in
set_option maxHeartbeats 2000000 in
theorem comBoth (o : Int) (v : Value) (s : St) (c r a c' r' a' : Int) (w : World) (hx : HasS w v s) (hf : Fit s) :
    Calls Try.prog 9 #[.int .i64 o, v, opV c r a, opV c' r' a'] w fun e w' => e = .returned (.tuple #[.bool (bothS o s c r a c' r' a').1, .int .i64 (bothS o s c r a c' r' a').2]) ∧ Le w w' := by
  have hx0 := hx
  obtain ⟨vs, rfl, hr⟩ := hx
  obtain ⟨W, hW, hn, hl, hb1, hb2, hb3⟩ := lay3 w vs c r a c' r' a'
  have hap := fun (w' : World) (h : Le w w') => comInTurn o (stV vs) s c r a c' r' a' w' (hx0.le h) hf
  have haq := fun (w' : World) (h : Le w w') => comInTurn o (stV vs) s c' r' a' c r a w' (hx0.le h) hf
  have hf1 := hf.inS o c r a c' r' a'
  cases hm : bothMay o s c r a c' r' a'
  · have he := inS_no hm
    rw [bothS_no hm]
    generalize inS o s c r a c' r' a' = A at hap he
    obtain ⟨s1, x, y, e1⟩ := A
    simp only at he hap
    subst he
    clear haq hf1 hm
    go_enter Try.func9, Try.ntmps9
    go_upto_region 1 with fail
    clear hW hn hr
    obtain ⟨y0, y1, y2, y3, _, _, _, _⟩ := hb1.st
    obtain ⟨x0, x1, x2, _, _, _⟩ := hb2.op
    obtain ⟨z0, z1, z2, _, _, _⟩ := hb3.op
    go_wp2_with fail
    refine (hap _ hl).mono ?_
    rintro e w1 ⟨q1, rfl, h1, l1⟩
    replace l1 := l1.trans (Le.alloc w1 (.cells (cells6 q1 x y) 48))
    clear y0 y1 y2 y3 x0 x1 x2 z0 z1 z2
    go_wp2_with fail
    go_ret2
    exact ⟨rfl, hl.trans l1⟩
  · rw [bothS_yes hm]
    have hB : bothB o s c r a c' r' a' = (decide ((inS o s c r a c' r' a').1 = (inS o s c' r' a' c r a).1) && ((inS o s c r a c' r' a').2.1 == (inS o s c' r' a' c r a).2.2.1) && ((inS o s c r a c' r' a').2.2.1 == (inS o s c' r' a' c r a).2.1)) := by
      rw [inS_yes hm, inS_yes ((bothMay_turn _ _ _ _ _ _ _ _).trans hm)]
      unfold bothB
      congr 1
      exact decide_eq_decide.2 eq_comm
    have he := congrArg (fun p => p.2.2.2) (inS_yes hm)
    simp only at he
    rw [hB]
    clear hB
    generalize inS o s c r a c' r' a' = A at hap he hf1 ⊢
    generalize inS o s c' r' a' c r a = B at haq ⊢
    obtain ⟨s1, x, y, e1⟩ := A
    obtain ⟨s2, x', y', e2⟩ := B
    simp only at he hap haq hf1 ⊢
    subst he
    clear hm
    go_enter Try.func9, Try.ntmps9
    go_upto_region 1 with fail
    clear hW hn hr
    obtain ⟨y0, y1, y2, y3, _, _, _, _⟩ := hb1.st
    obtain ⟨x0, x1, x2, _, _, _⟩ := hb2.op
    obtain ⟨z0, z1, z2, _, _, _⟩ := hb3.op
    go_wp2_with fail
    refine (hap _ hl).mono ?_
    rintro e w1 ⟨q1, rfl, h1, l1⟩
    have hb4 := Box.new w1 (cells6 q1 x y) 48
    have hA := Le.alloc w1 (.cells (cells6 q1 x y) 48)
    replace l1 := l1.trans hA
    replace h1 := h1.le hA
    replace hl := hl.trans l1
    replace hb1 := hb1.le l1
    replace hb2 := hb2.le l1
    replace hb3 := hb3.le l1
    clear y0 y1 y2 y3 x0 x1 x2 z0 z1 z2 hap hA l1
    go_upto_region 2 with fail
    generalize hW : w1.alloc (.cells (cells6 q1 x y) 48) = W1 at hb1 hb2 hb3 hb4 h1 hl ⊢
    generalize w1.heap.size = g4 at hb4 ⊢
    clear hW
    obtain ⟨y0, y1, y2, y3, _, _, _, _⟩ := hb1.st
    obtain ⟨x0, x1, x2, _, _, _⟩ := hb2.op
    obtain ⟨z0, z1, z2, _, _, _⟩ := hb3.op
    go_wp2_with fail
    refine (haq _ hl).mono ?_
    rintro e w2 ⟨q2, rfl, h2, l2⟩
    have hb5 := Box.new w2 (cells6 q2 x' y') 48
    have hA := Le.alloc w2 (.cells (cells6 q2 x' y') 48)
    replace l2 := l2.trans hA
    replace h2 := h2.le hA
    replace h1 := h1.le l2
    replace hl := hl.trans l2
    replace hb4 := hb4.le l2
    clear y0 y1 y2 y3 x0 x1 x2 z0 z1 z2 haq hA l2 hb1 hb2 hb3
    go_upto_region 5 with fail
    generalize hW : w2.alloc (.cells (cells6 q2 x' y') 48) = W2 at hb4 hb5 h1 h2 hl ⊢
    generalize w2.heap.size = g5 at hb5 ⊢
    clear hW
    have y0 := hb4.later 0
    have y1 := hb4.later 1
    have y2 := hb4.later 2
    have y3 := hb4.later 3
    have y4 := hb4.later 4
    have y5 := hb4.later 5
    have z0 := hb5.later 0
    have z1 := hb5.later 1
    have z2 := hb5.later 2
    have z3 := hb5.later 3
    have z4 := hb5.later 4
    have z5 := hb5.later 5
    have hsm := fun X : Later W2 => comSame q1 q2 x y y' x' s1 s2 X.w (h1.le X.le) (h2.le X.le) hf1
    refine wp_region_later (by kernel_rfl) (by kernel_rfl) ?_
    repeat (go_big_quiet_step (first | (go_at_call 17; exact Calls.later (comTurned _ _ _ _)) | (go_at_call 16; exact Calls.later (hsm _))))
    refine wpQuiet_nil ?_
    rintro _ ⟨X, rfl⟩
    go_wp2
    go_ret2
    exact ⟨rfl, hl.trans X.le⟩

end Go.Proofs.Ytphphppohagniaa
