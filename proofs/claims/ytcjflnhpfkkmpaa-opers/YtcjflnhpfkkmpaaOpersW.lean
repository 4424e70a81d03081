/-
  THE WALK over choruslaw2.Opers: it answers true, for every two operations and every text, and turns nothing that was there.
-/
import Derived.Test.YtcjflnhpfkkmpaaOAwake
import Derived.Test.YtcjflnhpfkkmpaaOperR
import Derived.Test.YtcjflnhpfkkmpaaLater
namespace Go.Proofs.Ytcjflnhpfkkmpaa
open Go.RowKit

set_option maxHeartbeats 8000000 in
theorem lawOpers (w : World) (c r a c' r' a' : Int) (s : ByteArray) : Calls Try.prog 3 #[opV c r a, opV c' r' a', .string s] w fun e w' => e = .returned (.bool true) ∧ Le w w' := by
  obtain ⟨X, hX⟩ : ∃ X, X = putS c r a := ⟨_, rfl⟩
  obtain ⟨Y, hY⟩ : ∃ Y, Y = putS c' r' a' := ⟨_, rfl⟩
  obtain ⟨G, hG⟩ : ∃ G, G = getS s := ⟨_, rfl⟩
  obtain ⟨xs, xe⟩ := X
  obtain ⟨ys, ye⟩ := Y
  obtain ⟨gc, gr, ga, ge⟩ := G
  have HX : Hid ((xs, xe) = putS c r a) := hX
  have HY : Hid ((ys, ye) = putS c' r' a') := hY
  have HG : Hid ((gc, gr, ga, ge) = getS s) := hG
  clear hX hY hG
  have hb := (Box.new w #[.int .i64 c, .int .i64 r, .int .i64 a] 23).le (Le.alloc _ (.cells #[.int .i64 c', .int .i64 r', .int .i64 a'] 23))
  have hb' := Box.new (w.alloc (.cells #[.int .i64 c, .int .i64 r, .int .i64 a] 23)) #[.int .i64 c', .int .i64 r', .int .i64 a'] 23
  rw [World.size_alloc] at hb'
  have hl := (Le.alloc w (.cells #[.int .i64 c, .int .i64 r, .int .i64 a] 23)).trans (Le.alloc _ (.cells #[.int .i64 c', .int .i64 r', .int .i64 a'] 23))
  go_enter Try.func3, Try.ntmps3
  go_wp2_with fail
  refine (operPut _ _ _ _).mono ?_
  rw [← HX.out]
  rintro e w1 ⟨rfl, l1⟩
  replace hb := hb.le l1
  replace hb' := hb'.le l1
  replace hl := hl.trans l1
  clear l1
  obtain ⟨b0, b1, b2, _, _, _⟩ := hb.op
  go_wp2_with fail
  refine (refPut _ _ _ _).mono ?_
  rw [← HX.out]
  rintro e w2 ⟨rfl, l2⟩
  replace hb := hb.le l2
  replace hb' := hb'.le l2
  replace hl := hl.trans l2
  clear l2 b0 b1 b2
  go_wp2_with fail
  refine (operGet _ _).mono ?_
  rw [← HG.out]
  rintro e w3 ⟨rfl, l3⟩
  replace l3 := l3.trans (Le.alloc w3 (.cells #[.int .i64 gc, .int .i64 gr, .int .i64 ga] 23))
  have hc := Box.new w3 #[.int .i64 gc, .int .i64 gr, .int .i64 ga] 23
  replace hb := hb.le l3
  replace hb' := hb'.le l3
  replace hl := hl.trans l3
  clear l3
  go_wp2_with fail
  refine (refGet _ _).mono ?_
  rw [← HG.out]
  rintro e w4 ⟨rfl, l4⟩
  replace l4 := l4.trans (Le.alloc w4 (.cells #[.int .i64 gc, .int .i64 gr, .int .i64 ga] 23))
  have hd := Box.new w4 #[.int .i64 gc, .int .i64 gr, .int .i64 ga] 23
  replace hb := hb.le l4
  replace hb' := hb'.le l4
  replace hc := hc.le l4
  replace hl := hl.trans l4
  clear l4
  obtain ⟨b0, b1, b2, _, _, _⟩ := hb'.op
  go_wp2_with fail
  refine (operPut _ _ _ _).mono ?_
  rw [← HY.out]
  rintro e w5 ⟨rfl, l5⟩
  replace hb := hb.le l5
  replace hb' := hb'.le l5
  replace hc := hc.le l5
  replace hd := hd.le l5
  replace hl := hl.trans l5
  clear l5 b0 b1 b2
  obtain ⟨q0, q1, q2⟩ := hb.later3
  obtain ⟨q3, q4, q5⟩ := hc.later3
  obtain ⟨q6, q7, q8⟩ := hd.later3
  go_wp2_with fail
  refine wp_region_later (by kernel_rfl) (by kernel_rfl) ?_
  repeat (go_big_quiet_step (first | (go_at_call 10; exact Calls.later_same (lawNum _ _)) | (go_at_call 11; exact Calls.later (operMay _ _ _ _)) | (go_at_call 12; exact Calls.later (refOperMay _ _ _ _)) | (go_at_call 13; exact Calls.later (operUpdates _ _ _ _)) | (go_at_call 14; exact Calls.later (refUpdates _ _ _ _))))
  refine wpQuiet_nil ?_
  rintro _ ⟨x, rfl⟩
  replace hb := hb.le x.le
  replace hb' := hb'.le x.le
  replace hl := hl.trans x.le
  generalize x.w = w6 at hb hb' hl ⊢
  clear q0 q1 q2 q3 q4 q5 q6 q7 q8 hc hd
  obtain ⟨b0, b1, b2, _, _, _⟩ := hb.op
  obtain ⟨d0, d1, d2, _, _, _⟩ := hb'.op
  by_cases h0 : xe = 0
  · by_cases h1 : ye = 0
    · subst h0
      subst h1
      by_cases h2 : c = c' ∧ r = r' ∧ a = a'
      · obtain ⟨rfl, rfl, rfl⟩ := h2
        obtain rfl : xs = ys := by have e1 := HX.out; rw [← HY.out] at e1; exact congrArg Prod.fst e1
        go_wp2_with (first | (go_at_call 10; refine (lawNum _ _).mono ?_; rintro e _ ⟨rfl, rfl⟩) | (go_at_call 15; refine (lawAwake2 _).mono ?_; rintro e w7 ⟨rfl, l7⟩))
        go_ret
        exact ⟨rfl, hl.trans l7⟩
      · have hs := put_apart HX.out HY.out h2
        rcases (by omega : c ≠ c' ∨ c = c' ∧ r ≠ r' ∨ c = c' ∧ r = r' ∧ a ≠ a') with h3 | ⟨rfl, h3⟩ | ⟨rfl, rfl, h3⟩
        all_goals
          go_wp2_with (first | (go_at_call 10; refine (lawNum _ _).mono ?_; rintro e _ ⟨rfl, rfl⟩) | (go_at_call 15; refine (lawAwake2 _).mono ?_; rintro e w7 ⟨rfl, l7⟩))
          go_ret
          exact ⟨rfl, hl.trans l7⟩
    · subst h0
      go_wp2_with (first | (go_at_call 10; refine (lawNum _ _).mono ?_; rintro e _ ⟨rfl, rfl⟩) | (go_at_call 15; refine (lawAwake2 _).mono ?_; rintro e w7 ⟨rfl, l7⟩))
      go_ret
      exact ⟨rfl, hl.trans l7⟩
  · go_wp2_with (first | (go_at_call 10; refine (lawNum _ _).mono ?_; rintro e _ ⟨rfl, rfl⟩) | (go_at_call 15; refine (lawAwake2 _).mono ?_; rintro e w7 ⟨rfl, l7⟩))
    go_ret
    exact ⟨rfl, hl.trans l7⟩

end Go.Proofs.Ytcjflnhpfkkmpaa
