/-
  THE WALK over choruslaw9.SlotAlive: it answers true, for every slot and every two numbers, and turns nothing that was there.
-/
import Derived.Test.YtkangejkdfeelaaSlLapsW
namespace Go.Proofs.Ytkangejkdfeelaa
open Go.RowKit

set_option maxRecDepth 20000 in
set_option maxHeartbeats 4000000 in
theorem lawAlive9 (w : World) (c r a t b a0 a1 : Int) : Calls Try.prog 6 #[slotV c r a t b, .int .i64 a0, .int .i64 a1] w fun e w' => e = .returned (.bool true) ∧ Le w w' := by
  obtain ⟨m, hm, m0, m1⟩ : ∃ m, bits .and .i64 a0 65535 = m ∧ 0 ≤ m ∧ m ≤ 65535 := ⟨_, and65535 a0, by omega, by omega⟩
  obtain ⟨k, hk, hh⟩ : ∃ k : Int, (k = 2 ∨ k = 4 ∨ k = 8 ∨ k = 16) ∧ ((k = 2 ∧ bits .and .i64 a1 3 = 0) ∨ (k = 4 ∧ bits .and .i64 a1 3 = 1) ∨ (k = 8 ∧ bits .and .i64 a1 3 = 2) ∨ (k = 16 ∧ bits .and .i64 a1 3 = 3)) := by
    rcases and3_cases a1 with h | h | h | h
    · exact ⟨2, by omega, by omega⟩
    · exact ⟨4, by omega, by omega⟩
    · exact ⟨8, by omega, by omega⟩
    · exact ⟨16, by omega, by omega⟩
  obtain ⟨q, hq, q1, q2, _, _⟩ := laps (m := m) hk
  have hk' : slotsB k = true := by rcases hk with rfl | rfl | rfl | rfl <;> decide
  have k1 : k ≤ 16 := by omega
  have k0 : 0 ≤ k := by omega
  clear hk
  have h1 := fun w => slotBitYes m k w hk' m0 (by omega)
  have h2 := fun w => slotAliveYes c r a t b m k w hk' m0 (by omega)
  have h3 := fun w => slotAliveYes c r a t b (m + k) k w hk' (by omega) (by omega)
  rw [q1] at h1 h2
  rw [q2] at h3
  clear q1 q2 hk' k0 k1
  have hb := Box.new w #[.int .i64 c, .int .i64 r, .int .i64 a, .int .i64 t, .int .i64 b] 25
  have hl := Le.alloc w (.cells #[.int .i64 c, .int .i64 r, .int .i64 a, .int .i64 t, .int .i64 b] 25)
  rcases hh with ⟨rfl, h⟩ | ⟨rfl, h⟩ | ⟨rfl, h⟩ | ⟨rfl, h⟩ <;> rcases hq with rfl | rfl <;> rcases (by omega : b = 0 ∨ b = 1 ∨ (b ≠ 0 ∧ b ≠ 1)) with rfl | rfl | ⟨n0, n1⟩
  all_goals
    simp only [show (1 : Int) - 0 = 1 by decide, show (1 : Int) - 1 = 0 by decide] at h3
    try simp only [n0, n1] at h2 h3
    try (have e0 : (b == 0) = false := by simp [n0])
    try (have e1 : (b == 1) = false := by simp [n1])
    go_enter Try.func6, Try.ntmps6
    go_wp2_with (go_at_call 13; refine (lawAwake9 _).mono ?_; rintro e w1 ⟨rfl, l1⟩)
    refine (h1 _).mono ?_
    rintro e _ ⟨rfl, rfl⟩
    obtain ⟨y0, y1, y2, y3, y4⟩ := (hb.le l1).slot
    go_wp2_with fail
    refine (h2 _).mono ?_
    rintro e w2 ⟨rfl, l2⟩
    obtain ⟨z0, z1, z2, z3, z4⟩ := ((hb.le l1).le l2).slot
    go_wp2_with fail
    refine (h3 _).mono ?_
    rintro e w3 ⟨rfl, l3⟩
    obtain ⟨x0, x1, x2, x3, x4⟩ := (((hb.le l1).le l2).le l3).slot
    go_wp2_with (go_at_call 12; refine (lawNum _ _).mono ?_; rintro e _ ⟨rfl, rfl⟩)
    go_ret
    exact ⟨rfl, ((hl.trans l1).trans l2).trans l3⟩

end Go.Proofs.Ytkangejkdfeelaa
