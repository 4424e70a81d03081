/-
  THE WALK over choruslaw6.awake: it answers true and turns nothing that was there. No condition.
-/
import Derived.Test.YtmfjiadamdajeaaObjB
import Derived.Test.YtmfjiadamdajeaaNumA
import Derived.Test.YtmfjiadamdajeaaStPut2
namespace Go.Proofs.Ytmfjiadamdajeaa
open Go.RowKit

theorem ob1 : objS 2 St.zero 0 0 5 600 = (⟨[5], [], [], []⟩, 1, 0) := by decide
theorem ob2 : objS 3 St.zero 0 0 0 600 = (St.zero, 0, 600) := by decide
theorem ob3 : objMay 2 ⟨[1, 1], [], [], []⟩ = true := by decide
theorem ob4 : objMay 1 ⟨[1, 1], [], [], []⟩ = false := by decide
theorem ob5 : objMay 0 ⟨[1, 1], [], [], []⟩ = false := by decide
theorem ob6 : objMay (-1) ⟨[1, 1], [], [], []⟩ = false := by decide

set_option maxRecDepth 4000 in
set_option maxHeartbeats 4000000 in
theorem lawAwake6 (w : World) : Calls Try.prog 15 #[] w fun e w' => e = .returned (.bool true) ∧ Le w w' := by
  have hl := Le.alloc w (.cells (cells4 fun _ => slZ) 25)
  have hb0 := Box.new w (cells4 fun _ => slZ) 25
  go_enter Try.func15, Try.ntmps15
  go_wp2_with fail
  refine (objApply 2 stZ St.zero 0 0 5 _ (HasS.zero _) fit_zero).mono ?_
  rw [ob1]
  rintro e w1 ⟨_, rfl, ⟨q1, rfl, o1⟩, l1⟩
  have hb1 := Box.new w1 (cells4 q1) 25
  have n1 : w.heap.size ≠ w1.heap.size := Nat.ne_of_lt (hb0.le l1).lt
  replace l1 := l1.trans (Le.alloc w1 (.cells (cells4 q1) 25))
  replace hb0 := hb0.le l1
  replace hl := hl.trans l1
  replace o1 := fun i hi => (o1 i hi).le (Le.alloc w1 (.cells (cells4 q1) 25))
  clear l1
  obtain ⟨y0, y1, y2, y3, _, _, _, _⟩ := hb0.st
  go_wp2_with fail
  refine (objApply 3 stZ St.zero 0 0 0 _ (HasS.zero _) fit_zero).mono ?_
  rw [ob2]
  rintro e w2 ⟨_, rfl, ⟨q2, rfl, o2⟩, l2⟩
  replace l2 := l2.trans (Le.alloc w2 (.cells (cells4 q2) 25))
  replace hb0 := hb0.le l2
  replace hb1 := hb1.le l2
  replace hl := hl.trans l2
  replace o1 := (o1 0 (by omega)).le l2
  clear l2 o2 y0 y1 y2 y3
  go_upto_region 4 with fail
  replace o1 := o1.base (base' := w.heap.size) (by simp)
  generalize hW : w2.alloc (.cells (cells4 q2) 25) = W at hb0 hb1 hl o1 ⊢
  clear hW
  have hA := Le.alloc W (.cells #[.int .i64 1, .int .i64 1] 3)
  have hnew : Own (W.alloc (.cells #[.int .i64 1, .int .i64 1] 3)) w.heap.size (slV (some ⟨W.heap.size, 0, none⟩, 2, 2)) [1, 1] := Own.lit W _ hl.size [1, 1] (by simp)
  replace hl := hl.trans hA
  replace hb0 := hb0.le hA
  replace hb1 := hb1.le hA
  replace o1 := o1.le hA
  obtain ⟨y0, y1, y2, y3, f0, f1, f2, f3⟩ := hb0.st
  go_upto_region 5 with fail
  replace hl : Le w ((W.alloc (.cells #[.int .i64 1, .int .i64 1] 3)).setCell ⟨w.heap.size, 0, none⟩ (slV (some ⟨W.heap.size, 0, none⟩, 2, 2))) := Below.setCell hl (Nat.le_refl _) _
  replace o1 := o1.setBox (i := 0) (u := slV (some ⟨W.heap.size, 0, none⟩, 2, 2)) hb0 (by decide)
  replace hnew := hnew.setBox (i := 0) (u := slV (some ⟨W.heap.size, 0, none⟩, 2, 2)) hb0 (by decide)
  replace hb1 := hb1.other n1.symm 0 (slV (some ⟨W.heap.size, 0, none⟩, 2, 2))
  replace hb0 := hb0.upd4 (i := 0) (by omega) (some ⟨W.heap.size, 0, none⟩, 2, 2)
  generalize hW : (W.alloc (.cells #[.int .i64 1, .int .i64 1] 3)).setCell ⟨w.heap.size, 0, none⟩ (slV (some ⟨W.heap.size, 0, none⟩, 2, 2)) = W5 at hb0 hb1 hl o1 hnew ⊢
  obtain ⟨q5, hq5⟩ : ∃ q5, q5 = upd (fun _ => slZ) 0 (some ⟨W.heap.size, 0, none⟩, 2, 2) := ⟨_, rfl⟩
  have h5 : HasS W5 (stV q5) ⟨[1, 1], [], [], []⟩ := by
    subst hq5
    refine ⟨_, rfl, fun i hi => ?_⟩
    rcases four hi with rfl | rfl | rfl | rfl
    · exact hnew.has
    · exact Has.nil _
    · exact Has.nil _
    · exact Has.nil _
  rw [← hq5] at hb0
  clear hW hnew y0 y1 y2 y3 f0 f1 f2 f3 hq5 hA
  have hfit : Fit ⟨[1, 1], [], [], []⟩ := fit_small (by simp)
  have y0 := hb1.st.1
  have hA := Le.alloc W5 (.cells #[.int .i64 5] 3)
  have h9 : Own (W5.alloc (.cells #[.int .i64 5] 3)) w.heap.size (slV (some ⟨W5.heap.size, 0, none⟩, 1, 1)) [5] := Own.lit W5 _ hl.size [5] (by simp)
  have hsame := lawSameI (slV (q1 0)) (slV (some ⟨W5.heap.size, 0, none⟩, 1, 1)) [5] [5] _ (o1.has.le hA) h9.has (by decide)
  rw [show decide ([(5 : Int)] = [5]) = true by decide] at hsame
  go_wp2_with (first | (go_at_call 11; refine (lawNum _ _).mono ?_; rintro e _ ⟨rfl, rfl⟩) | (go_at_call 17; refine hsame.mono ?_; rintro e w6 ⟨rfl, l6⟩; replace l6 := hA.trans l6; obtain ⟨z0, z1, z2, z3, _, _, _, _⟩ := (hb0.le l6).st; clear hsame h9 y0))
  refine (objMayC 2 (stV q5) _ _ (h5.le l6) hfit).mono ?_
  rw [ob3]
  rintro e w7 ⟨rfl, l7⟩
  replace l6 := l6.trans l7
  clear l7 z0 z1 z2 z3
  obtain ⟨z0, z1, z2, z3, _, _, _, _⟩ := (hb0.le l6).st
  go_wp2_with fail
  refine (objMayC 1 (stV q5) _ _ (h5.le l6) hfit).mono ?_
  rw [ob4]
  rintro e w8 ⟨rfl, l7⟩
  replace l6 := l6.trans l7
  clear l7 z0 z1 z2 z3
  obtain ⟨z0, z1, z2, z3, _, _, _, _⟩ := (hb0.le l6).st
  go_wp2_with fail
  refine (objMayC 0 (stV q5) _ _ (h5.le l6) hfit).mono ?_
  rw [ob5]
  rintro e w9 ⟨rfl, l7⟩
  replace l6 := l6.trans l7
  clear l7 z0 z1 z2 z3
  obtain ⟨z0, z1, z2, z3, _, _, _, _⟩ := (hb0.le l6).st
  go_wp2_with fail
  refine (objMayC (-1) (stV q5) _ _ (h5.le l6) hfit).mono ?_
  rw [ob6]
  rintro e w10 ⟨rfl, l7⟩
  replace l6 := l6.trans l7
  go_wp2_with fail
  go_ret
  exact ⟨rfl, hl.trans l6⟩

end Go.Proofs.Ytmfjiadamdajeaa
