/-
  THE WALKS over the document's own upTo and OperMay: what they answer, for every operation. No condition.
-/
import Derived.Test.YtnpejgendmgfaaaOpMay
namespace Go.Proofs.Ytnpejgendmgfaaa
open Go.RowKit

theorem refUpTo (x a b : Int) (w : World) : Calls Try.prog 35 #[.int .i64 x, .int .i64 a, .int .i64 b] w fun e w' => e = .returned (.bool (decide (a ≤ x) && decide (x ≤ b))) ∧ w = w' := by
  by_cases h : a ≤ x
  all_goals
    go_enter Try.func35, Try.ntmps35
    go_wp2
    go_ret
    exact ⟨ret_bool (by simp [h]; try omega), rfl⟩

theorem in_yes {a x b : Int} (h : a ≤ x) (k : x ≤ b) : (decide (a ≤ x) && decide (x ≤ b)) = true := by simp [h, k]
theorem in_no {a x b : Int} (h : x < a ∨ b < x) : (decide (a ≤ x) && decide (x ≤ b)) = false := by simp; omega

set_option maxHeartbeats 2000000 in
theorem refOperMay (c r a : Int) (w : World) :
    Calls Try.prog 26 #[opV c r a] w fun e w' => e = .returned (.bool (opMay c r a)) ∧ Le w w' := by
  by_cases hc : c < 0 ∨ 3 < c
  · go_enter Try.func26, Try.ntmps26
    go_wp2_with (go_at_call 35; refine (refUpTo _ _ _ _).mono ?_; rw [in_no hc]; rintro e w1 ⟨rfl, rfl⟩)
    go_ret
    exact ⟨ret_bool (by simp [opMay]; omega), Le.alloc _ _⟩
  have hc' := in_yes (a := 0) (x := c) (b := 3) (by omega) (by omega)
  by_cases hr : r < 0 ∨ 3 < r
  · go_enter Try.func26, Try.ntmps26
    go_wp2_with (go_at_call 35; refine (refUpTo _ _ _ _).mono ?_; (first | rw [hc'] | rw [in_no hr]); rintro e w1 ⟨rfl, rfl⟩)
    go_ret
    exact ⟨ret_bool (by simp [opMay]; omega), Le.alloc _ _⟩
  have hr' := in_yes (a := 0) (x := r) (b := 3) (by omega) (by omega)
  by_cases ha : a < 0 ∨ 255 < a
  · go_enter Try.func26, Try.ntmps26
    go_wp2_with (go_at_call 35; refine (refUpTo _ _ _ _).mono ?_; (first | rw [hc'] | rw [hr'] | rw [in_no ha]); rintro e w1 ⟨rfl, rfl⟩)
    go_ret
    exact ⟨ret_bool (by simp [opMay]; omega), Le.alloc _ _⟩
  have ha' := in_yes (a := 0) (x := a) (b := 255) (by omega) (by omega)
  have hH : opMay c r a = (decide (c < 2) || (decide (a = 0) && (decide (c = 2) || decide (r = 0)))) := by
    rw [Bool.eq_iff_iff]; simp [opMay]; omega
  rw [hH]
  clear hH
  by_cases h2 : c < 2
  · go_enter Try.func26, Try.ntmps26
    go_wp2_with (go_at_call 35; refine (refUpTo _ _ _ _).mono ?_; (first | rw [hc'] | rw [hr'] | rw [ha']); rintro e w1 ⟨rfl, rfl⟩)
    go_ret
    exact ⟨ret_bool (by simp [h2]), Le.alloc _ _⟩
  by_cases h0 : a = 0
  · subst h0
    by_cases h3 : c = 2
    · subst h3
      go_enter Try.func26, Try.ntmps26
      go_wp2_with (go_at_call 35; refine (refUpTo _ _ _ _).mono ?_; (first | rw [hc'] | rw [hr'] | rw [ha']); rintro e w1 ⟨rfl, rfl⟩)
      go_ret
      exact ⟨ret_bool (by simp), Le.alloc _ _⟩
    · go_enter Try.func26, Try.ntmps26
      go_wp2_with (go_at_call 35; refine (refUpTo _ _ _ _).mono ?_; (first | rw [hc'] | rw [hr'] | rw [ha']); rintro e w1 ⟨rfl, rfl⟩)
      go_ret
      exact ⟨ret_bool (by simp [h3, beq_int]), Le.alloc _ _⟩
  · go_enter Try.func26, Try.ntmps26
    go_wp2_with (go_at_call 35; refine (refUpTo _ _ _ _).mono ?_; (first | rw [hc'] | rw [hr'] | rw [ha']); rintro e w1 ⟨rfl, rfl⟩)
    go_ret
    exact ⟨ret_bool (by simp [h0]), Le.alloc _ _⟩

end Go.Proofs.Ytnpejgendmgfaaa
