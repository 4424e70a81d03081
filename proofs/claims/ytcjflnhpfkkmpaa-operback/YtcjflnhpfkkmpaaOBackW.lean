/-
  THE WALK over choruslaw2.OperBack: it answers true, for every three numbers, and turns nothing that was there.
-/
import Derived.Test.YtcjflnhpfkkmpaaOAwake
import Derived.Test.YtcjflnhpfkkmpaaBits
import Derived.Test.YtcjflnhpfkkmpaaLater
namespace Go.Proofs.Ytcjflnhpfkkmpaa
open Go.RowKit

set_option maxHeartbeats 2000000 in
theorem lawBack (w : World) (a0 a1 a2 : Int) : Calls Try.prog 5 #[.int .i64 a0, .int .i64 a1, .int .i64 a2] w fun e w' => e = .returned (.bool true) ∧ Le w w' := by
  obtain ⟨c, hc, c0, c1⟩ : ∃ m, bits .and .i64 a0 3 = m ∧ 0 ≤ m ∧ m ≤ 3 := ⟨_, and3 a0, by omega, by omega⟩
  obtain ⟨r, hr, r0, r1⟩ : ∃ m, bits .and .i64 a1 3 = m ∧ 0 ≤ m ∧ m ≤ 3 := ⟨_, and3 a1, by omega, by omega⟩
  obtain ⟨a, ha, m0, m1⟩ : ∃ m, bits .and .i64 a2 255 = m ∧ 0 ≤ m ∧ m ≤ 255 := ⟨_, and255 a2, by omega, by omega⟩
  rcases (by omega : c < 2 ∨ c = 2 ∨ c = 3) with h | h | h
  · have hm : opMay c r a = true := by simp [opMay]; omega
    have hu : opUp c r a = true := by simp [opUp, hm]; omega
    go_enter Try.func5, Try.ntmps5
    go_wp2_with (go_at_call 15; refine (lawAwake2 _).mono ?_; rintro e w1 ⟨rfl, l1⟩)
    have hb := Box.new w1 #[.int .i64 c, .int .i64 r, .int .i64 a] 23
    replace l1 := l1.trans (Le.alloc w1 (.cells #[.int .i64 c, .int .i64 r, .int .i64 a] 23))
    refine (operPut _ _ _ _).mono ?_
    rw [put_may hm]
    rintro e w2 ⟨rfl, l2⟩
    replace hb := hb.le l2
    replace l1 := l1.trans l2
    clear l2
    have hs : (strOfNums [c, r, a]).size = 3 := by rw [strOfNums_size]; rfl
    go_wp2_with fail
    refine (operGet _ _).mono ?_
    rw [get_put hm]
    rintro e w3 ⟨rfl, l3⟩
    replace hb := hb.le (l3.trans (Le.alloc w3 (.cells #[.int .i64 c, .int .i64 r, .int .i64 a] 23)))
    have hb2 := Box.new w3 #[.int .i64 c, .int .i64 r, .int .i64 a] 23
    replace l1 := l1.trans (l3.trans (Le.alloc w3 (.cells #[.int .i64 c, .int .i64 r, .int .i64 a] 23)))
    clear l3
    obtain ⟨b0, b1, b2, _, _, _⟩ := hb.op
    obtain ⟨d0, d1, d2, _, _, _⟩ := hb2.op
    go_wp2_with fail
    obtain ⟨q0, q1, q2⟩ := hb.later3
    obtain ⟨q3, q4, q5⟩ := hb2.later3
    refine wp_region_later (by kernel_rfl) (by kernel_rfl) ?_
    repeat (go_big_quiet_step (first | (go_at_call 10; exact Calls.later_same (lawNum _ _)) | (go_at_call 11; exact Calls.later_is (congrArg Value.bool hm) (operMay _ _ _ _)) | (go_at_call 13; exact Calls.later_is (congrArg Value.bool hu) (operUpdates _ _ _ _))))
    refine wpQuiet_nil ?_
    rintro _ ⟨x, rfl⟩
    go_wp2
    go_ret
    exact ⟨rfl, l1.trans x.le⟩
  · subst h
    have hm : opMay 2 r 0 = true := by simp [opMay]; try omega
    have hu : opUp 2 r 0 = false := by simp [opUp]
    go_enter Try.func5, Try.ntmps5
    go_wp2_with (go_at_call 15; refine (lawAwake2 _).mono ?_; rintro e w1 ⟨rfl, l1⟩)
    have hb := Box.new w1 #[.int .i64 2, .int .i64 r, .int .i64 0] 23
    replace l1 := l1.trans (Le.alloc w1 (.cells #[.int .i64 2, .int .i64 r, .int .i64 0] 23))
    refine (operPut _ _ _ _).mono ?_
    rw [put_may hm]
    rintro e w2 ⟨rfl, l2⟩
    replace hb := hb.le l2
    replace l1 := l1.trans l2
    clear l2
    have hs : (strOfNums [2, r, 0]).size = 3 := by rw [strOfNums_size]; rfl
    go_wp2_with fail
    refine (operGet _ _).mono ?_
    rw [get_put hm]
    rintro e w3 ⟨rfl, l3⟩
    replace hb := hb.le (l3.trans (Le.alloc w3 (.cells #[.int .i64 2, .int .i64 r, .int .i64 0] 23)))
    have hb2 := Box.new w3 #[.int .i64 2, .int .i64 r, .int .i64 0] 23
    replace l1 := l1.trans (l3.trans (Le.alloc w3 (.cells #[.int .i64 2, .int .i64 r, .int .i64 0] 23)))
    clear l3
    obtain ⟨b0, b1, b2, _, _, _⟩ := hb.op
    obtain ⟨d0, d1, d2, _, _, _⟩ := hb2.op
    go_wp2_with fail
    obtain ⟨q0, q1, q2⟩ := hb.later3
    obtain ⟨q3, q4, q5⟩ := hb2.later3
    refine wp_region_later (by kernel_rfl) (by kernel_rfl) ?_
    repeat (go_big_quiet_step (first | (go_at_call 10; exact Calls.later_same (lawNum _ _)) | (go_at_call 11; exact Calls.later_is (congrArg Value.bool hm) (operMay _ _ _ _)) | (go_at_call 13; exact Calls.later_is (congrArg Value.bool hu) (operUpdates _ _ _ _))))
    refine wpQuiet_nil ?_
    rintro _ ⟨x, rfl⟩
    go_wp2
    go_ret
    exact ⟨rfl, l1.trans x.le⟩
  · subst h
    have hm : opMay 3 0 0 = true := by simp [opMay]; try omega
    have hu : opUp 3 0 0 = false := by simp [opUp]
    go_enter Try.func5, Try.ntmps5
    go_wp2_with (go_at_call 15; refine (lawAwake2 _).mono ?_; rintro e w1 ⟨rfl, l1⟩)
    have hb := Box.new w1 #[.int .i64 3, .int .i64 0, .int .i64 0] 23
    replace l1 := l1.trans (Le.alloc w1 (.cells #[.int .i64 3, .int .i64 0, .int .i64 0] 23))
    refine (operPut _ _ _ _).mono ?_
    rw [put_may hm]
    rintro e w2 ⟨rfl, l2⟩
    replace hb := hb.le l2
    replace l1 := l1.trans l2
    clear l2
    have hs : (strOfNums [3, 0, 0]).size = 3 := by rw [strOfNums_size]; rfl
    go_wp2_with fail
    refine (operGet _ _).mono ?_
    rw [get_put hm]
    rintro e w3 ⟨rfl, l3⟩
    replace hb := hb.le (l3.trans (Le.alloc w3 (.cells #[.int .i64 3, .int .i64 0, .int .i64 0] 23)))
    have hb2 := Box.new w3 #[.int .i64 3, .int .i64 0, .int .i64 0] 23
    replace l1 := l1.trans (l3.trans (Le.alloc w3 (.cells #[.int .i64 3, .int .i64 0, .int .i64 0] 23)))
    clear l3
    obtain ⟨b0, b1, b2, _, _, _⟩ := hb.op
    obtain ⟨d0, d1, d2, _, _, _⟩ := hb2.op
    go_wp2_with fail
    obtain ⟨q0, q1, q2⟩ := hb.later3
    obtain ⟨q3, q4, q5⟩ := hb2.later3
    refine wp_region_later (by kernel_rfl) (by kernel_rfl) ?_
    repeat (go_big_quiet_step (first | (go_at_call 10; exact Calls.later_same (lawNum _ _)) | (go_at_call 11; exact Calls.later_is (congrArg Value.bool hm) (operMay _ _ _ _)) | (go_at_call 13; exact Calls.later_is (congrArg Value.bool hu) (operUpdates _ _ _ _))))
    refine wpQuiet_nil ?_
    rintro _ ⟨x, rfl⟩
    go_wp2
    go_ret
    exact ⟨rfl, l1.trans x.le⟩

end Go.Proofs.Ytcjflnhpfkkmpaa
