/-
  THE WALK over choruslaw9.SlotLaps: it answers true, for every two numbers, and turns nothing that was there.
-/
import Derived.Test.YtkangejkdfeelaaSlAwake
import Derived.Test.YtkangejkdfeelaaBits
namespace Go.Proofs.Ytkangejkdfeelaa
open Go.RowKit

theorem slotBitYes (p n : Int) (w : World) (hn : slotsB n = true) (h0 : 0 ≤ p) (h1 : p ≤ 1048576) :
    Calls Try.prog 8 #[.int .i64 p, .int .i64 n] w fun e w' => e = .returned (.tuple #[.int .i64 (bitAt p n), .int .i64 0]) ∧ w = w' := by
  have := slotBit p n w
  rwa [bitS_yes hn (by simp [holdB]; omega)] at this
theorem slotBitNo (p n : Int) (w : World) (h : slotsB n = false ∨ holdB p = false) :
    Calls Try.prog 8 #[.int .i64 p, .int .i64 n] w fun e w' => e = .returned (.tuple #[.int .i64 0, .int .i64 900]) ∧ w = w' := by
  have := slotBit p n w
  rwa [bitS_no h] at this
theorem slotAliveYes (c r a t b p n : Int) (w : World) (hn : slotsB n = true) (h0 : 0 ≤ p) (h1 : p ≤ 1048576) :
    Calls Try.prog 10 #[slotV c r a t b, .int .i64 p, .int .i64 n] w fun e w' => e = .returned (.tuple #[.bool (decide (b = bitAt p n)), .int .i64 0]) ∧ Le w w' := by
  have := slotAlive c r a t b p n w
  rwa [aliveS_yes hn (by simp [holdB]; omega)] at this
theorem slotAliveNo (c r a t b p n : Int) (w : World) (h : slotsB n = false ∨ holdB p = false) :
    Calls Try.prog 10 #[slotV c r a t b, .int .i64 p, .int .i64 n] w fun e w' => e = .returned (.tuple #[.bool false, .int .i64 900]) ∧ Le w w' := by
  have := slotAlive c r a t b p n w
  rwa [aliveS_no h] at this

theorem and3_cases (n : Int) : bits .and .i64 n 3 = 0 ∨ bits .and .i64 n 3 = 1 ∨ bits .and .i64 n 3 = 2 ∨ bits .and .i64 n 3 = 3 := by rw [and3]; omega

theorem laps {k m : Int} (hk : k = 2 ∨ k = 4 ∨ k = 8 ∨ k = 16) : ∃ q, (q = 0 ∨ q = 1) ∧ bitAt m k = q ∧ bitAt (m + k) k = 1 - q ∧ bitAt (m / k * k) k = q ∧ bitAt (m / k * k + k - 1) k = q := by
  refine ⟨_, ?_, rfl, ?_⟩
  · unfold bitAt; omega
  · unfold bitAt
    rcases hk with rfl | rfl | rfl | rfl <;> omega

set_option maxRecDepth 20000 in
set_option maxHeartbeats 4000000 in
theorem lawLaps (w : World) (a0 a1 : Int) : Calls Try.prog 4 #[.int .i64 a0, .int .i64 a1] w fun e w' => e = .returned (.bool true) ∧ Le w w' := by
  obtain ⟨m, hm, m0, m1⟩ : ∃ m, bits .and .i64 a0 65535 = m ∧ 0 ≤ m ∧ m ≤ 65535 := ⟨_, and65535 a0, by omega, by omega⟩
  obtain ⟨k, hk, hh⟩ : ∃ k : Int, (k = 2 ∨ k = 4 ∨ k = 8 ∨ k = 16) ∧ ((k = 2 ∧ bits .and .i64 a1 3 = 0) ∨ (k = 4 ∧ bits .and .i64 a1 3 = 1) ∨ (k = 8 ∧ bits .and .i64 a1 3 = 2) ∨ (k = 16 ∧ bits .and .i64 a1 3 = 3)) := by
    rcases and3_cases a1 with h | h | h | h
    · exact ⟨2, by omega, by omega⟩
    · exact ⟨4, by omega, by omega⟩
    · exact ⟨8, by omega, by omega⟩
    · exact ⟨16, by omega, by omega⟩
  obtain ⟨q, hq, q1, q2, q3, q4⟩ := laps (m := m) hk
  clear hk
  rcases hh with ⟨rfl, h⟩ | ⟨rfl, h⟩ | ⟨rfl, h⟩ | ⟨rfl, h⟩ <;> rcases hq with rfl | rfl
  all_goals
    go_enter Try.func4, Try.ntmps4
    go_wp2_with (first | (go_at_call 13; refine (lawAwake9 _).mono ?_; rintro e w1 ⟨rfl, l1⟩) | (go_at_call 8; refine (slotBitYes _ _ _ (by decide) (by omega) (by omega)).mono ?_; (first | rw [q1] | rw [q2] | rw [q3] | rw [q4]); rintro e _ ⟨rfl, rfl⟩) | (go_at_call 12; refine (lawNum _ _).mono ?_; rintro e _ ⟨rfl, rfl⟩))
    go_ret
    exact ⟨rfl, l1⟩

end Go.Proofs.Ytkangejkdfeelaa
