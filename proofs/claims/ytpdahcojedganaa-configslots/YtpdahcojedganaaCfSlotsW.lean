/-
  THE WALK over choruslaw13.ConfigSlots: it answers true, for every two numbers, and turns nothing that was there. No condition.
-/
import Derived.Test.YtpdahcojedganaaCfAwake
import Derived.Test.YtpdahcojedganaaBits2
namespace Go.Proofs.Ytpdahcojedganaa
open Go.RowKit

set_option maxRecDepth 4000 in
set_option maxHeartbeats 4000000 in
theorem configSlots_law (w : World) (a0 a1 : Int) : Calls Try.prog 6 #[.int .i64 a0, .int .i64 a1] w fun e w' => e = .returned (.bool true) ∧ Le w w' := by
  obtain ⟨m, hm, m0, m1⟩ : ∃ m, bits .and .i64 a0 3 = m ∧ 0 ≤ m ∧ m ≤ 3 := ⟨_, and3 a0, by omega, by omega⟩
  obtain ⟨k, hk, k0, k1⟩ : ∃ k, bits .and .i64 a1 31 = k ∧ 0 ≤ k ∧ k ≤ 31 := ⟨_, and31 a1, by omega, by omega⟩
  have hc : cfgB 0 1 1 (1 + m) k = (slotsB k && decide (2 * (1 + m) ≤ k)) := by
    have i1 : inB 1 (1 + m) 4 = true := inB_of (by omega) (by omega)
    have i2 : inB 0 0 2 = true := by decide
    have i3 : inB 1 1 2 = true := by decide
    simp only [cfgB, i1, i2, i3, Bool.true_and]
  by_cases hs : k = 2 ∨ k = 4 ∨ k = 8 ∨ k = 16
  · by_cases hle : 2 * (1 + m) ≤ k
    all_goals
      have h1 := fun w => cfgAs (hc.trans (show _ = decide (2 * (1 + m) ≤ k) by rcases hs with rfl | rfl | rfl | rfl <;> simp [slotsB])) w
      first | rw [decide_eq_true hle] at h1 | rw [decide_eq_false hle] at h1
      clear hc
      rcases hs with rfl | rfl | rfl | rfl
      all_goals try (exfalso; omega)
      all_goals
        go_enter Try.func6, Try.ntmps6
        go_wp2_with (first | (go_at_call 12; refine (lawAwake13 _).mono ?_; rintro e w1 ⟨rfl, l1⟩) | (go_at_call 10; refine (h1 _).mono ?_; rintro e w2 ⟨rfl, l2⟩) | (go_at_call 9; refine (lawNum _ _).mono ?_; rintro e _ ⟨rfl, rfl⟩))
        go_ret
        exact ⟨ret_bool (by simp; try omega), l1.trans l2⟩
  · have n1 : ¬ k = 2 := by omega
    have n2 : ¬ k = 4 := by omega
    have n3 : ¬ k = 8 := by omega
    have n4 : ¬ k = 16 := by omega
    have h1 := fun w => cfgAs (hc.trans (show _ = false by simp [slotsB, n1, n2, n3, n4])) w
    clear hc hs
    go_enter Try.func6, Try.ntmps6
    go_wp2_with (first | (go_at_call 12; refine (lawAwake13 _).mono ?_; rintro e w1 ⟨rfl, l1⟩) | (go_at_call 10; refine (h1 _).mono ?_; rintro e w2 ⟨rfl, l2⟩) | (go_at_call 9; refine (lawNum _ _).mono ?_; rintro e _ ⟨rfl, rfl⟩))
    go_ret
    exact ⟨ret_bool (by simp), l1.trans l2⟩

end Go.Proofs.Ytpdahcojedganaa
