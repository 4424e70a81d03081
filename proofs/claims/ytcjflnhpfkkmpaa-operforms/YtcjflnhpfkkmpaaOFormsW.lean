/-
  THE WALK over choruslaw2.OperForms: it answers true, for every two numbers, and turns nothing that was there.
-/
import Derived.Test.YtcjflnhpfkkmpaaOAwake
import Derived.Test.YtcjflnhpfkkmpaaBits
namespace Go.Proofs.Ytcjflnhpfkkmpaa
open Go.RowKit

theorem operPutNo (c r a : Int) (w : World) (h : opMay c r a = false) : Calls Try.prog 6 #[opV c r a] w fun e w' => e = .returned (.tuple #[.string ⟨#[]⟩, .int .i64 200]) ∧ Le w w' := by
  have := operPut c r a w
  rwa [show putS c r a = (⟨#[]⟩, 200) by simp [putS, h]] at this

theorem operGetNo (s : ByteArray) (w : World) (h : getS s = (0, 0, 0, 200)) : Calls Try.prog 8 #[.string s] w fun e w' => e = .returned (.tuple #[opV 0 0 0, .int .i64 200]) ∧ Le w w' := by
  have := operGet s w
  rwa [h] at this

theorem operMayNo (c r a : Int) (w : World) (h : opMay c r a = false) : Calls Try.prog 11 #[opV c r a] w fun e w' => e = .returned (.bool false) ∧ Le w w' := by
  have := operMay c r a w
  rwa [h] at this

theorem operUpdatesNo (c r a : Int) (w : World) (h : opMay c r a = false) : Calls Try.prog 13 #[opV c r a] w fun e w' => e = .returned (.bool false) ∧ Le w w' := by
  have := operUpdates c r a w
  rwa [show opUp c r a = false by simp [opUp, h]] at this

theorem nine (a : Int) : (IntKind.u64.wrap a).tmod 9 = 0 ∨ (IntKind.u64.wrap a).tmod 9 = 1 ∨ (IntKind.u64.wrap a).tmod 9 = 2 ∨ (IntKind.u64.wrap a).tmod 9 = 3 ∨ (IntKind.u64.wrap a).tmod 9 = 4 ∨ (IntKind.u64.wrap a).tmod 9 = 5 ∨ (IntKind.u64.wrap a).tmod 9 = 6 ∨ (IntKind.u64.wrap a).tmod 9 = 7 ∨ (IntKind.u64.wrap a).tmod 9 = 8 := by
  have h : 0 ≤ IntKind.u64.wrap a := by simp [IntKind.wrap, IntKind.bits, IntKind.signed]; omega
  rw [Int.tmod_eq_emod_of_nonneg h]
  omega

set_option maxHeartbeats 8000000 in
theorem lawForms2 (w : World) (a0 a1 : Int) : Calls Try.prog 4 #[.int .i64 a0, .int .i64 a1] w fun e w' => e = .returned (.bool true) ∧ Le w w' := by
  obtain ⟨m, hm, m0, m1⟩ : ∃ m, bits .and .i64 a1 1023 = m ∧ 0 ≤ m ∧ m ≤ 1023 := ⟨_, and1023 a1, by omega, by omega⟩
  rcases nine a0 with h | h | h | h | h | h | h | h | h
  all_goals
    go_enter Try.func4, Try.ntmps4
    go_wp2_with (go_at_call 15; refine (lawAwake2 _).mono ?_; rintro e w1 ⟨rfl, l1⟩)
    refine (operPutNo _ _ _ _ ?_).mono ?_
    · simp [opMay]; try omega
    rintro e w2 ⟨rfl, l2⟩
    have hb := (Box.new _ _ _).le l2
    rw [World.size_alloc] at hb
    replace l1 := l1.trans (((Le.alloc _ _).trans (Le.alloc _ _)).trans l2)
    go_wp2_with fail
    refine (operGetNo _ _ ?_).mono ?_
    · decide
    rintro e w3 ⟨rfl, l3⟩
    replace hb := hb.le ((Le.alloc _ _).trans l3)
    replace l1 := l1.trans ((Le.alloc _ _).trans l3)
    clear l2 l3
    replace hb := hb.le (Le.alloc w3 (.cells #[.int .i64 0, .int .i64 0, .int .i64 0] 23))
    replace l1 := l1.trans (Le.alloc w3 (.cells #[.int .i64 0, .int .i64 0, .int .i64 0] 23))
    obtain ⟨b0, b1, b2, _, _, _⟩ := hb.op
    go_wp2_with fail
    refine (operMayNo _ _ _ _ ?_).mono ?_
    · simp [opMay]; try omega
    rintro e w4 ⟨rfl, l4⟩
    replace hb := hb.le l4
    replace l1 := l1.trans l4
    clear b0 b1 b2 l4
    obtain ⟨b0, b1, b2, _, _, _⟩ := hb.op
    go_wp2_with fail
    refine (operUpdatesNo _ _ _ _ ?_).mono ?_
    · simp [opMay]; try omega
    rintro e w5 ⟨rfl, l5⟩
    replace l1 := l1.trans l5
    clear b0 b1 b2 l5 hb
    go_wp2_with (go_at_call 10; refine (lawNum _ _).mono ?_; rintro e _ ⟨rfl, rfl⟩)
    go_ret
    exact ⟨rfl, l1⟩

end Go.Proofs.Ytcjflnhpfkkmpaa
