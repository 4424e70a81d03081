/-
  THE WALK over choruslaw9.SlotForms: it answers true, for every two numbers, and turns nothing that was there.
-/
import Derived.Test.YtkangejkdfeelaaSlLapsW
namespace Go.Proofs.Ytkangejkdfeelaa
open Go.RowKit

theorem twelve (a : Int) : ∃ q : Int, (IntKind.u64.wrap a).tmod 12 = q ∧ 0 ≤ q ∧ q < 12 := by
  have h : 0 ≤ IntKind.u64.wrap a := by simp [IntKind.wrap, IntKind.bits, IntKind.signed]; omega
  rw [Int.tmod_eq_emod_of_nonneg h]
  exact ⟨_, rfl, by omega, by omega⟩

set_option maxRecDepth 4000 in
set_option maxHeartbeats 4000000 in
theorem lawForms9 (w : World) (a0 a1 : Int) : Calls Try.prog 5 #[.int .i64 a0, .int .i64 a1] w fun e w' => e = .returned (.bool true) ∧ Le w w' := by
  obtain ⟨m, hm, m0, m1⟩ : ∃ m, bits .and .i64 a1 1023 = m ∧ 0 ≤ m ∧ m ≤ 1023 := ⟨_, and1023 a1, by omega, by omega⟩
  obtain ⟨q, hq, q0, q1⟩ := twelve a0
  rcases (by omega : q = 0 ∨ q = 1 ∨ q = 2 ∨ q = 3 ∨ q = 4 ∨ q = 5 ∨ q = 6 ∨ q = 7 ∨ q = 8 ∨ q = 9 ∨ q = 10 ∨ q = 11) with rfl | rfl | rfl | rfl | rfl | rfl | rfl | rfl | rfl | rfl | rfl | rfl
  all_goals
    clear q0 q1
    go_enter Try.func5, Try.ntmps5
    go_wp2_with (go_at_call 13; refine (lawAwake9 _).mono ?_; rintro e w1 ⟨rfl, l1⟩)
    refine (slotBitNo _ _ _ (.inl (by simp [slotsB]; try omega))).mono ?_
    rintro e _ ⟨rfl, rfl⟩

    clear hq
    go_wp2_with fail
    refine (slotBitNo _ _ _ (.inr (by simp [holdB]; try omega))).mono ?_
    rintro e _ ⟨rfl, rfl⟩
    go_wp2_with fail
    refine (slotBitNo _ _ _ (.inr (by simp [holdB]; try omega))).mono ?_
    rintro e _ ⟨rfl, rfl⟩
    go_wp2_with fail
    refine (slotAliveNo _ _ _ _ _ _ _ _ (.inl (by simp [slotsB]; try omega))).mono ?_
    rintro e w2 ⟨rfl, l2⟩
    go_wp2_with fail
    refine (slotAliveNo _ _ _ _ _ _ _ _ (.inr (by simp [holdB]; try omega))).mono ?_
    rintro e w3 ⟨rfl, l3⟩
    go_wp2_with (go_at_call 12; refine (lawNum _ _).mono ?_; rintro e _ ⟨rfl, rfl⟩)
    go_ret
    exact ⟨rfl, ((l1.trans (Le.alloc _ _)).trans l2).trans l3⟩

end Go.Proofs.Ytkangejkdfeelaa
