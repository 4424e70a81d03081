/-
  THE WALK over choruslaw3.StoreTwice: it answers true, for every three numbers, and turns nothing that was there.
-/
import Derived.Test.YtdcmmchlmjhgjaaStAwake
import Derived.Test.YtdcmmchlmjhgjaaStPut
import Derived.Test.YtdcmmchlmjhgjaaBits
namespace Go.Proofs.Ytdcmmchlmjhgjaa
open Go.RowKit

theorem fit_put {k : Nat} (hk : k < 4) {x : List Int} (hx : x.length ≤ 4) : Fit (St.zero.put k x) := fit_zero.put hk hx

set_option maxHeartbeats 2000000 in
theorem lawTwice (w : World) (a0 a1 a2 : Int) : Calls Try.prog 6 #[.int .i64 a0, .int .i64 a1, .int .i64 a2] w fun e w' => e = .returned (.bool true) ∧ Le w w' := by
  obtain ⟨k, hr, hk⟩ : ∃ k : Nat, bits .and .i64 a0 3 = (k : Int) ∧ k < 4 := ⟨(a0 % 4).toNat, by rw [and3]; omega, by omega⟩
  obtain ⟨x, hx, x0⟩ : ∃ m, bits .and .i64 a1 255 = m ∧ 0 ≤ m ∧ m ≤ 255 := ⟨_, and255 a1, by omega, by omega⟩
  obtain ⟨y, hy, y0⟩ : ∃ m, bits .and .i64 a2 255 = m ∧ 0 ≤ m ∧ m ≤ 255 := ⟨_, and255 a2, by omega, by omega⟩
  have m1 := St.all_put' (p := rowMay1) hk may_zero (may_one x0)
  have m2 := St.all_put' (p := rowMay1) hk may_zero (may_one y0)
  have e1 : stoS St.zero 0 k x 300 = (St.zero.put k [x], -1, 0) := by rw [stoS_first may_zero hk x0, St.at_zero]; rfl
  have e2 : stoS (St.zero.put k [x]) 0 k y 300 = (St.zero.put k [y], x, 0) := by rw [stoS_first m1 hk y0, St.put_put, St.put_at hk]; rfl
  have e3 : stoS (St.zero.put k [y]) 1 k x 300 = (St.zero, y, 0) := by rw [stoS_second m2 hk x0, St.put_put, St.put_at hk, St.zero_put]; rfl
  have e4 : stoS St.zero 1 k 0 300 = (St.zero, -1, 0) := by rw [stoS_second may_zero hk (by decide), St.zero_put, St.at_zero]; rfl
  clear m1 m2
  go_enter Try.func6, Try.ntmps6
  go_wp2_with (go_at_call 14; refine (lawAwake3 _).mono ?_; rintro e w1 ⟨rfl, l1⟩)
  refine (storeApply _ St.zero 0 k x _ (HasS.zero _) fit_zero).mono ?_
  rw [e1]
  rintro e w2 ⟨_, rfl, ⟨q2, rfl, o2⟩, l2⟩
  replace l2 := l2.trans (Le.alloc w2 (.cells (cells4 q2) 25))
  replace o2 := fun i hi => (o2 i hi).le (Le.alloc w2 (.cells (cells4 q2) 25))
  replace l1 := l1.trans l2
  clear l2
  go_wp2_with fail
  refine (storeApply _ (St.zero.put k [x]) 0 k y _ (OwnS.has ⟨q2, rfl, o2⟩) (fit_put hk (by simp))).mono ?_
  rw [e2]
  rintro e w3 ⟨_, rfl, ⟨q3, rfl, o3⟩, l3⟩
  replace l3 := l3.trans (Le.alloc w3 (.cells (cells4 q3) 25))
  replace o3 := fun i hi => (o3 i hi).le (Le.alloc w3 (.cells (cells4 q3) 25))
  replace l1 := l1.trans l3
  clear l3 o2
  go_wp2_with fail
  refine (storeApply _ (St.zero.put k [y]) 1 k x _ (OwnS.has ⟨q3, rfl, o3⟩) (fit_put hk (by simp))).mono ?_
  rw [e3]
  rintro e w4 ⟨_, rfl, ⟨q4, rfl, o4⟩, l4⟩
  replace l4 := l4.trans (Le.alloc w4 (.cells (cells4 q4) 25))
  replace o4 := fun i hi => (o4 i hi).le (Le.alloc w4 (.cells (cells4 q4) 25))
  replace l1 := l1.trans l4
  clear l4 o3
  go_wp2_with fail
  refine (storeApply _ St.zero 1 k 0 _ (OwnS.has ⟨q4, rfl, o4⟩) fit_zero).mono ?_
  rw [e4]
  rintro e w5 ⟨_, rfl, ⟨q5, rfl, o5⟩, l5⟩
  replace l5 := l5.trans (Le.alloc w5 (.cells (cells4 q5) 25))
  replace o5 := fun i hi => (o5 i hi).le (Le.alloc w5 (.cells (cells4 q5) 25))
  replace l1 := l1.trans l5
  clear l5 o4
  have hsame := lawSameState (stV q5) stZ St.zero St.zero _ (OwnS.has ⟨q5, rfl, o5⟩) (HasS.zero _) fit_zero
  rw [show decide (St.zero = St.zero) = true by decide] at hsame
  go_wp2_with (first | (go_at_call 12; refine (lawNum _ _).mono ?_; rintro e _ ⟨rfl, rfl⟩) | (go_at_call 11; refine hsame.mono ?_; rintro e w6 ⟨rfl, l6⟩))
  go_ret
  exact ⟨rfl, l1.trans l6⟩

end Go.Proofs.Ytdcmmchlmjhgjaa
