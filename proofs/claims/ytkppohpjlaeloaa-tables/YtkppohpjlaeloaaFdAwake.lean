/-
  THE WALK over choruslaw4.awake: it answers true and turns nothing that was there. No condition.
-/
import Derived.Test.YtkppohpjlaeloaaFdsD
import Derived.Test.YtkppohpjlaeloaaNumA
namespace Go.Proofs.Ytkppohpjlaeloaa
open Go.RowKit

theorem fd1 : fdsS ⟨[], [], [0, 2], []⟩ 0 2 0 400 = (⟨[], [], [0, 1, 2], []⟩, 1, 0) := by decide
theorem fd2 : fdsS ⟨[], [], [0, 1, 2], []⟩ 1 2 0 400 = (⟨[], [], [1, 2], []⟩, 1, 0) := by decide
theorem fd3 : fdsS ⟨[], [], [1, 2], []⟩ 1 2 0 400 = (⟨[], [], [1, 2], []⟩, 0, 0) := by decide
theorem fd4 : fdsS ⟨[], [], [1, 2], []⟩ 3 0 0 400 = (⟨[], [], [1, 2], []⟩, 2, 0) := by decide
theorem fd5 : fdsS ⟨[4], [], [0, 2], []⟩ 0 0 0 400 = (St.zero, 0, 400) := by decide

set_option maxRecDepth 4000 in
set_option maxHeartbeats 4000000 in
theorem lawAwake4 (w : World) : Calls Try.prog 15 #[] w fun e w' => e = .returned (.bool true) ∧ Le w w' := by
  have hl := (Le.alloc w (.cells #[slV slZ, slV slZ, slV (some ⟨w.heap.size + 1, 0, none⟩, 2, 2), slV slZ] 25)).trans (Le.alloc _ (.cells #[.int .i64 0, .int .i64 2] 3))
  have hb := (Box.new w #[slV slZ, slV slZ, slV (some ⟨w.heap.size + 1, 0, none⟩, 2, 2), slV slZ] 25).le (Le.alloc _ (.cells #[.int .i64 0, .int .i64 2] 3))
  have hn0 := Own.lit (w.alloc (.cells #[slV slZ, slV slZ, slV (some ⟨w.heap.size + 1, 0, none⟩, 2, 2), slV slZ] 25)) w.heap.size (by simp) [0, 2] (by simp)
  simp only [World.size_alloc] at hn0
  go_enter Try.func15, Try.ntmps15
  go_wp2_with fail
  generalize hW : (w.alloc (.cells #[slV slZ, slV slZ, slV (some ⟨w.heap.size + 1, 0, none⟩, 2, 2), slV slZ] 25)).alloc (.cells #[.int .i64 0, .int .i64 2] 3) = W at hl hb ⊢
  have hn : Own W w.heap.size (slV (some ⟨w.heap.size + 1, 0, none⟩, 2, 2)) [0, 2] := by rw [← hW]; exact hn0
  clear hW hn0
  obtain ⟨q0, hq0⟩ : ∃ q0 : Nat → Sl, q0 = upd (fun _ => slZ) 2 (some ⟨w.heap.size + 1, 0, none⟩, 2, 2) := ⟨_, rfl⟩
  have hS : OwnS W w.heap.size (stV q0) ⟨[], [], [0, 2], []⟩ := by
    refine ⟨_, rfl, fun i hi => ?_⟩
    subst hq0
    rcases four hi with rfl | rfl | rfl | rfl
    · exact Own.nil _ _
    · exact Own.nil _ _
    · exact hn
    · exact Own.nil _ _
  have hb0 : Box W w.heap.size (cells4 q0) 25 := by subst hq0; exact hb
  have hv : (Value.agg #[.slice none 0 0, .slice none 0 0, .slice (some ⟨w.heap.size + 1, 0, none⟩) 2 2, .slice none 0 0]) = stV q0 := by subst hq0; rfl
  rw [hv]
  clear hb hn hv hq0
  refine (fdsApply _ ⟨[], [], [0, 2], []⟩ 0 2 0 _ hS.has (fit_small (by simp))).mono ?_
  rw [fd1]
  rintro e w1 ⟨_, rfl, ⟨q1, rfl, o1⟩, l1⟩
  replace hb0 := hb0.le l1
  replace hl := hl.trans l1
  replace hS := hS.le l1
  clear l1
  have n1 : w.heap.size ≠ w1.heap.size := Nat.ne_of_lt hb0.lt
  have hb1 := Box.new w1 (cells4 q1) 25
  have l1 := Le.alloc w1 (.cells (cells4 q1) 25)
  replace hb0 := hb0.le l1
  replace hl := hl.trans l1
  replace hS := hS.le l1
  replace o1 := fun i hi => (o1 i hi).le l1
  go_wp2_with fail
  refine (fdsApply _ ⟨[], [], [0, 1, 2], []⟩ 1 2 0 _ (OwnS.has ⟨q1, rfl, o1⟩) (fit_small (by simp))).mono ?_
  rw [fd2]
  rintro e w2 ⟨_, rfl, ⟨q2, rfl, o2⟩, l2⟩
  replace hb0 := hb0.le l2
  replace hb1 := hb1.le l2
  replace hl := hl.trans l2
  replace hS := hS.le l2
  replace o1 := fun i hi => (o1 i hi).le l2
  clear l1 l2
  have n2 : w.heap.size ≠ w2.heap.size := Nat.ne_of_lt hb0.lt
  have hb2 := Box.new w2 (cells4 q2) 25
  have l2 := Le.alloc w2 (.cells (cells4 q2) 25)
  replace hb0 := hb0.le l2
  replace hb1 := hb1.le l2
  replace hl := hl.trans l2
  replace hS := hS.le l2
  replace o1 := fun i hi => (o1 i hi).le l2
  replace o2 := fun i hi => (o2 i hi).le l2
  go_wp2_with fail
  refine (fdsApply _ ⟨[], [], [1, 2], []⟩ 1 2 0 _ (OwnS.has ⟨q2, rfl, o2⟩) (fit_small (by simp))).mono ?_
  rw [fd3]
  rintro e w3 ⟨_, rfl, ⟨q3, rfl, o3⟩, l3⟩
  clear l2 o3
  replace l3 := l3.trans (Le.alloc w3 (.cells (cells4 q3) 25))
  replace hb0 := hb0.le l3
  replace hb1 := hb1.le l3
  replace hb2 := hb2.le l3
  replace hl := hl.trans l3
  replace hS := hS.le l3
  replace o1 := fun i hi => (o1 i hi).le l3
  replace o2 := fun i hi => (o2 i hi).le l3
  clear l3
  obtain ⟨y0, y1, y2, y3, _, _, _, _⟩ := hb2.st
  go_wp2_with fail
  refine (fdsApply _ ⟨[], [], [1, 2], []⟩ 3 0 0 _ (OwnS.has ⟨q2, rfl, o2⟩) (fit_small (by simp))).mono ?_
  rw [fd4]
  rintro e w4 ⟨_, rfl, ⟨q4, rfl, o4⟩, l4⟩
  clear o4
  replace l4 := l4.trans (Le.alloc w4 (.cells (cells4 q4) 25))
  replace hb0 := hb0.le l4
  replace hb1 := hb1.le l4
  replace hb2 := hb2.le l4
  replace hl := hl.trans l4
  replace hS := hS.le l4
  replace o1 := fun i hi => (o1 i hi).le l4
  replace o2 := fun i hi => (o2 i hi).le l4
  clear l4 y0 y1 y2 y3
  go_upto_region 7 with fail
  generalize hW : w4.alloc (.cells (cells4 q4) 25) = W4 at hb0 hb1 hb2 hl hS o1 o2 ⊢
  clear hW
  obtain ⟨y0, y1, y2, y3, f0, f1, f2, f3⟩ := (hb0.le (Le.alloc W4 (.cells #[.int .i64 4] 3))).st
  go_upto_region 8 with fail
  have hA := Le.alloc W4 (.cells #[.int .i64 4] 3)
  have hnew : Own (W4.alloc (.cells #[.int .i64 4] 3)) w.heap.size (slV (some ⟨W4.heap.size, 0, none⟩, 1, 1)) [4] := Own.lit W4 _ hl.size [4] (by simp)
  obtain ⟨vs0, hv0, hr0⟩ := hS
  have hqq : ∀ i, i < 4 → vs0 i = q0 i := by
    intro i hi
    simp at hv0
    obtain ⟨a0, a1, a2, a3⟩ := hv0
    rcases four hi with rfl | rfl | rfl | rfl
    · exact (Prod.ext a0.1 (Prod.ext a0.2.1 a0.2.2)).symm
    · exact (Prod.ext a1.1 (Prod.ext a1.2.1 a1.2.2)).symm
    · exact (Prod.ext a2.1 (Prod.ext a2.2.1 a2.2.2)).symm
    · exact (Prod.ext a3.1 (Prod.ext a3.2.1 a3.2.2)).symm
  have hrow2 : Own W4 w.heap.size (slV (q0 2)) [0, 2] := by rw [← hqq 2 (by omega)]; exact hr0 2 (by omega)
  have hrow1 : Own W4 w.heap.size (slV (q0 1)) [] := by rw [← hqq 1 (by omega)]; exact hr0 1 (by omega)
  have hrow3 : Own W4 w.heap.size (slV (q0 3)) [] := by rw [← hqq 3 (by omega)]; exact hr0 3 (by omega)
  clear hv0 hr0 hqq
  replace hnew := hnew.setBox (i := 0) (u := slV (some ⟨W4.heap.size, 0, none⟩, 1, 1)) (hb0.le hA) (by decide)
  replace hrow1 := (hrow1.le hA).setBox (i := 0) (u := slV (some ⟨W4.heap.size, 0, none⟩, 1, 1)) (hb0.le hA) (by decide)
  replace hrow2 := (hrow2.le hA).setBox (i := 0) (u := slV (some ⟨W4.heap.size, 0, none⟩, 1, 1)) (hb0.le hA) (by decide)
  replace hrow3 := (hrow3.le hA).setBox (i := 0) (u := slV (some ⟨W4.heap.size, 0, none⟩, 1, 1)) (hb0.le hA) (by decide)
  replace o1 := fun i hi => ((o1 i hi).le hA).setBox (i := 0) (u := slV (some ⟨W4.heap.size, 0, none⟩, 1, 1)) (hb0.le hA) (by decide)
  replace o2 := fun i hi => ((o2 i hi).le hA).setBox (i := 0) (u := slV (some ⟨W4.heap.size, 0, none⟩, 1, 1)) (hb0.le hA) (by decide)
  replace hb1 := (hb1.le hA).other n1.symm 0 (slV (some ⟨W4.heap.size, 0, none⟩, 1, 1))
  replace hb2 := (hb2.le hA).other n2.symm 0 (slV (some ⟨W4.heap.size, 0, none⟩, 1, 1))
  replace hb0 := (hb0.le hA).set 0 (slV (some ⟨W4.heap.size, 0, none⟩, 1, 1))
  rw [cells4_upd _ (by omega)] at hb0
  replace hl : Le w ((W4.alloc (.cells #[.int .i64 4] 3)).setCell ⟨w.heap.size, 0, none⟩ (slV (some ⟨W4.heap.size, 0, none⟩, 1, 1))) := Below.setCell (hl.trans hA) (Nat.le_refl _) _
  generalize hW : (W4.alloc (.cells #[.int .i64 4] 3)).setCell ⟨w.heap.size, 0, none⟩ (slV (some ⟨W4.heap.size, 0, none⟩, 1, 1)) = W5 at hb0 hb1 hb2 hl o1 o2 hnew hrow1 hrow2 hrow3 ⊢
  have h5 : HasS W5 (stV (upd q0 0 (some ⟨W4.heap.size, 0, none⟩, 1, 1))) ⟨[4], [], [0, 2], []⟩ := by
    refine ⟨_, rfl, fun i hi => ?_⟩
    rcases four hi with rfl | rfl | rfl | rfl
    · exact hnew.has
    · exact hrow1.has
    · exact hrow2.has
    · exact hrow3.has
  generalize hq5 : upd q0 0 (some ⟨W4.heap.size, 0, none⟩, 1, 1) = q5 at hb0 h5
  clear hW hnew hrow1 hrow2 hrow3 y0 y1 y2 y3 f0 f1 f2 f3 hq5 hA n1 n2
  obtain ⟨y0, y1, y2, y3, _, _, _, _⟩ := hb0.st
  go_wp2_with fail
  refine (fdsApply _ ⟨[4], [], [0, 2], []⟩ 0 0 0 _ h5 (fit_small (by simp))).mono ?_
  rw [fd5]
  rintro e w5 ⟨_, rfl, ⟨q6, rfl, o6⟩, l5⟩
  replace l5 := l5.trans (Le.alloc w5 (.cells (cells4 q6) 25))
  clear o6 h5 hb0 y0 y1 y2 y3
  replace hb1 := hb1.le l5
  replace hb2 := hb2.le l5
  replace hl := hl.trans l5
  replace o1 := (o1 2 (by omega)).le l5
  replace o2 := (o2 2 (by omega)).le l5
  clear l5
  go_upto_region 9 with fail
  generalize hW : w5.alloc (.cells (cells4 q6) 25) = W6 at hb1 hb2 hl o1 o2 ⊢
  clear hW
  have y2 := hb1.st.2.2.1
  have hA := Le.alloc W6 (.cells #[.int .i64 0, .int .i64 1, .int .i64 2] 3)
  have h9 : Own (W6.alloc (.cells #[.int .i64 0, .int .i64 1, .int .i64 2] 3)) w.heap.size (slV (some ⟨W6.heap.size, 0, none⟩, 3, 3)) [0, 1, 2] := Own.lit W6 _ hl.size [0, 1, 2] (by simp)
  have hsame := lawSameI (slV (q1 2)) (slV (some ⟨W6.heap.size, 0, none⟩, 3, 3)) [0, 1, 2] [0, 1, 2] _ (o1.has.le hA) h9.has (by decide)
  rw [show decide ([(0 : Int), 1, 2] = [0, 1, 2]) = true by decide] at hsame
  go_wp2_with (first | (go_at_call 13; refine (lawNum _ _).mono ?_; rintro e _ ⟨rfl, rfl⟩) | (go_at_call 16; refine hsame.mono ?_; rintro e w6 ⟨rfl, l6⟩; replace l6 := hA.trans l6; have z2 := (hb2.le l6).st.2.2.1; have hA2 := Le.alloc w6 (.cells #[.int .i64 1, .int .i64 2] 3); have h10 : Own (w6.alloc (.cells #[.int .i64 1, .int .i64 2] 3)) w.heap.size (slV (some ⟨w6.heap.size, 0, none⟩, 2, 2)) [1, 2] := Own.lit w6 _ (hl.trans l6).size [1, 2] (by simp); have hsame2 := lawSameI (slV (q2 2)) (slV (some ⟨w6.heap.size, 0, none⟩, 2, 2)) [1, 2] [1, 2] _ (o2.has.le (l6.trans hA2)) h10.has (by decide); rw [show decide ([(1 : Int), 2] = [1, 2]) = true by decide] at hsame2; clear hsame) | (go_at_call 16; refine hsame2.mono ?_; rintro e w7 ⟨rfl, l7⟩))
  go_ret
  exact ⟨rfl, ((hl.trans l6).trans hA2).trans l7⟩

end Go.Proofs.Ytkppohpjlaeloaa
