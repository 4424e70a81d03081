/-
  THE WALK over choruslaw3.awake: it answers true and turns nothing that was there. No condition.
-/
import Derived.Test.YtdcmmchlmjhgjaaStoreC
import Derived.Test.YtdcmmchlmjhgjaaStPut2
import Derived.Deep.Cut
namespace Go.Proofs.Ytdcmmchlmjhgjaa
open Go.RowKit

theorem sto1 : stoS St.zero 0 1 7 300 = (⟨[], [7], [], []⟩, -1, 0) := by decide
theorem sto2 : stoS ⟨[], [7], [], []⟩ 0 1 9 300 = (⟨[], [9], [], []⟩, 7, 0) := by decide
theorem sto3 : stoS ⟨[], [9], [], []⟩ 3 0 0 300 = (⟨[], [9], [], []⟩, 9, 0) := by decide
theorem sto4 : stoS ⟨[], [9], [], []⟩ 1 1 0 300 = (⟨[], [], [], []⟩, 9, 0) := by decide
theorem sto5 : stoS ⟨[1, 2], [], [], []⟩ 0 0 0 300 = (St.zero, 0, 300) := by decide

set_option maxHeartbeats 2000000 in
theorem lawAwake3 (w : World) : Calls Try.prog 14 #[] w fun e w' => e = .returned (.bool true) ∧ Le w w' := by
  have hb := Box.new w (cells4 fun _ => slZ) 25
  have hl := Le.alloc w (.cells (cells4 fun _ => slZ) 25)
  go_enter Try.func14, Try.ntmps14
  go_wp2_with fail
  refine (storeApply _ St.zero 0 1 7 _ (HasS.zero _) fit_zero).mono ?_
  rw [sto1]
  rintro e w1 ⟨_, rfl, ⟨q1, rfl, o1⟩, l1⟩
  replace hb := hb.le l1
  replace hl := hl.trans l1
  clear l1
  have l1 := Le.alloc w1 (.cells (cells4 q1) 25)
  go_wp2_with fail
  refine (storeApply _ ⟨[], [7], [], []⟩ 0 1 9 _ (OwnS.has ⟨q1, rfl, fun i hi => (o1 i hi).le l1⟩) (fit_small (by simp))).mono ?_
  rw [sto2]
  rintro e w2 ⟨_, rfl, ⟨q2, rfl, o2⟩, l2⟩
  replace hb := (hb.le l1).le l2
  replace hl := (hl.trans l1).trans l2
  clear l1 l2 o1
  have n2 : w.heap.size ≠ w2.heap.size := Nat.ne_of_lt hb.lt
  have hb2 := Box.new w2 (cells4 q2) 25
  replace hb := hb.le (Le.alloc w2 (.cells (cells4 q2) 25))
  replace hl := hl.trans (Le.alloc w2 (.cells (cells4 q2) 25))
  replace o2 := fun i hi => (o2 i hi).le (Le.alloc w2 (.cells (cells4 q2) 25))
  go_wp2_with fail
  refine (storeApply _ ⟨[], [9], [], []⟩ 3 0 0 _ (OwnS.has ⟨q2, rfl, o2⟩) (fit_small (by simp))).mono ?_
  rw [sto3]
  rintro e w3 ⟨_, rfl, ⟨q3, rfl, o3⟩, l3⟩
  clear o3
  replace l3 := l3.trans (Le.alloc w3 (.cells (cells4 q3) 25))
  replace hb := hb.le l3
  replace hb2 := hb2.le l3
  replace hl := hl.trans l3
  replace o2 := fun i hi => (o2 i hi).le l3
  clear l3
  obtain ⟨y0, y1, y2, y3, _, _, _, _⟩ := hb2.st
  go_wp2_with fail
  refine (storeApply _ ⟨[], [9], [], []⟩ 1 1 0 _ (OwnS.has ⟨q2, rfl, o2⟩) (fit_small (by simp))).mono ?_
  rw [sto4]
  rintro e w4 ⟨_, rfl, ⟨q4, rfl, o4⟩, l4⟩
  have n4 : w.heap.size ≠ w4.heap.size := Nat.ne_of_lt (hb.le l4).lt
  have hb4 := Box.new w4 (cells4 q4) 25
  replace l4 := l4.trans (Le.alloc w4 (.cells (cells4 q4) 25))
  replace o4 := (o4 1 (by omega)).le (Le.alloc w4 (.cells (cells4 q4) 25))
  replace hb := hb.le l4
  replace hb2 := hb2.le l4
  replace hl := hl.trans l4
  replace o2 := fun i hi => (o2 i hi).le l4
  clear l4 y0 y1 y2 y3
  go_upto_region 6 with fail
  generalize hW : w4.alloc (.cells (cells4 q4) 25) = W at hb hb2 hb4 hl o2 o4 ⊢
  clear hW
  obtain ⟨y0, y1, y2, y3, f0, f1, f2, f3⟩ := (hb.le (Le.alloc W (.cells #[.int .i64 1, .int .i64 2] 3))).st
  go_upto_region 7 with fail
  have hA := Le.alloc W (.cells #[.int .i64 1, .int .i64 2] 3)
  have hnew : Own (W.alloc (.cells #[.int .i64 1, .int .i64 2] 3)) w.heap.size (slV (some ⟨W.heap.size, 0, none⟩, 2, 2)) [1, 2] := Own.lit W _ hl.size [1, 2] (by simp)
  replace hnew := hnew.setBox (i := 0) (u := slV (some ⟨W.heap.size, 0, none⟩, 2, 2)) (hb.le hA) (by decide)
  replace o2 := fun i hi => ((o2 i hi).le hA).setBox (i := 0) (u := slV (some ⟨W.heap.size, 0, none⟩, 2, 2)) (hb.le hA) (by decide)
  replace o4 := (o4.le hA).setBox (i := 0) (u := slV (some ⟨W.heap.size, 0, none⟩, 2, 2)) (hb.le hA) (by decide)
  replace hb2 := (hb2.le hA).other n2.symm 0 (slV (some ⟨W.heap.size, 0, none⟩, 2, 2))
  replace hb4 := (hb4.le hA).other n4.symm 0 (slV (some ⟨W.heap.size, 0, none⟩, 2, 2))
  replace hb := (hb.le hA).set 0 (slV (some ⟨W.heap.size, 0, none⟩, 2, 2))
  rw [cells4_upd _ (by omega)] at hb
  replace hl : Le w ((W.alloc (.cells #[.int .i64 1, .int .i64 2] 3)).setCell ⟨w.heap.size, 0, none⟩ (slV (some ⟨W.heap.size, 0, none⟩, 2, 2))) := Below.setCell (hl.trans hA) (Nat.le_refl _) _
  generalize hW : (W.alloc (.cells #[.int .i64 1, .int .i64 2] 3)).setCell ⟨w.heap.size, 0, none⟩ (slV (some ⟨W.heap.size, 0, none⟩, 2, 2)) = W1 at hb hb2 hb4 hl o2 o4 hnew ⊢
  have h5 : HasS W1 (stV (upd (fun _ => slZ) 0 (some ⟨W.heap.size, 0, none⟩, 2, 2))) ⟨[1, 2], [], [], []⟩ := by
    refine ⟨_, rfl, fun i hi => ?_⟩
    rcases four hi with rfl | rfl | rfl | rfl
    · exact hnew.has
    all_goals exact Has.nil _
  generalize hq5 : upd (fun _ => slZ) 0 (some ⟨W.heap.size, 0, none⟩, 2, 2) = q5 at hb h5
  clear hW hnew y0 y1 y2 y3 f0 f1 f2 f3 hq5 hA n2 n4
  obtain ⟨y0, y1, y2, y3, _, _, _, _⟩ := hb.st
  go_wp2_with fail
  refine (storeApply _ ⟨[1, 2], [], [], []⟩ 0 0 0 _ h5 (fit_small (by simp))).mono ?_
  rw [sto5]
  rintro e w5 ⟨_, rfl, ⟨q6, rfl, o6⟩, l5⟩
  replace l5 := l5.trans (Le.alloc w5 (.cells (cells4 q6) 25))
  clear o6 h5 hb y0 y1 y2 y3
  replace hb2 := hb2.le l5
  replace hb4 := hb4.le l5
  replace hl := hl.trans l5
  replace o2 := (o2 1 (by omega)).le l5
  replace o4 := o4.le l5
  clear l5
  go_upto_region 8 with fail
  generalize hW : w5.alloc (.cells (cells4 q6) 25) = W2 at hb2 hb4 hl o2 o4 ⊢
  clear hW
  have y1 := hb2.st.2.1
  have h9 : Own (W2.alloc (.cells #[.int .i64 9] 3)) w.heap.size (slV (some ⟨W2.heap.size, 0, none⟩, 1, 1)) [9] := Own.lit W2 _ hl.size [9] (by simp)
  have hA := Le.alloc W2 (.cells #[.int .i64 9] 3)
  have hsame := lawSameI (slV (q2 1)) (slV (some ⟨W2.heap.size, 0, none⟩, 1, 1)) [9] [9] _ (o2.has.le hA) h9.has (by decide)
  rw [show decide ([(9 : Int)] = [9]) = true by decide] at hsame
  obtain ⟨ad, cap, he, _⟩ := o4.has
  go_wp2_with (first | (go_at_call 12; refine (lawNum _ _).mono ?_; rintro e _ ⟨rfl, rfl⟩) | (go_at_call 15; refine hsame.mono ?_; rintro e w6 ⟨rfl, l6⟩; replace l6 := hA.trans l6; have z1 := (hb4.le l6).st.2.1; rw [he] at z1))
  go_ret
  exact ⟨rfl, hl.trans l6⟩

end Go.Proofs.Ytdcmmchlmjhgjaa
