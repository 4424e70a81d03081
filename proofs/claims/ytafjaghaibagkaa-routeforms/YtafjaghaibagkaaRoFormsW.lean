/-
  THE WALK over choruslaw7.RouteForms: it answers true, for every two numbers, and turns nothing that was there.
-/
import Derived.Test.YtafjaghaibagkaaRoAwake
import Derived.Test.YtafjaghaibagkaaBits
namespace Go.Proofs.Ytafjaghaibagkaa
open Go.RowKit

theorem routeLogNo (c r a n : Int) (w : World) (h : opMay c r a = false ∨ c = 3 ∨ logsB n = false) : Calls Try.prog 8 #[opV c r a, .int .i64 n] w fun e w' => e = .returned (.tuple #[.int .i64 0, .int .i64 700]) ∧ Le w w' := by
  have := routeLog c r a n w
  rwa [logS_no h] at this

theorem three (a : Int) : (IntKind.u64.wrap a).tmod 3 = 0 ∨ (IntKind.u64.wrap a).tmod 3 = 1 ∨ (IntKind.u64.wrap a).tmod 3 = 2 := by
  have h : 0 ≤ IntKind.u64.wrap a := by simp [IntKind.wrap, IntKind.bits, IntKind.signed]; omega
  rw [Int.tmod_eq_emod_of_nonneg h]
  omega

set_option maxRecDepth 4000 in
set_option maxHeartbeats 4000000 in
theorem lawForms7 (w : World) (a0 a1 : Int) : Calls Try.prog 4 #[.int .i64 a0, .int .i64 a1] w fun e w' => e = .returned (.bool true) ∧ Le w w' := by
  obtain ⟨m, hm, m0, m1⟩ : ∃ m, bits .and .i64 a1 1023 = m ∧ 0 ≤ m ∧ m ≤ 1023 := ⟨_, and1023 a1, by omega, by omega⟩
  rcases three a0 with h | h | h
  all_goals
    go_enter Try.func4, Try.ntmps4
    go_wp2_with (go_at_call 15; refine (lawAwake7 _).mono ?_; rintro e w1 ⟨rfl, l1⟩)
    refine (routeLogNo _ _ _ _ _ ?_).mono ?_
    · simp [opMay, logsB]; try omega
    rintro e w2 ⟨rfl, l2⟩
    replace l1 := l1.trans ((Le.alloc _ _).trans l2)
    clear l2 h
    go_wp2_with fail
    refine (routeLogNo _ _ _ _ _ (.inr (.inl rfl))).mono ?_
    rintro e w3 ⟨rfl, l2⟩
    replace l1 := l1.trans l2
    clear l2
    go_wp2_with fail
    refine (routeLogNo _ _ _ _ _ (.inl ?_)).mono ?_
    · simp [opMay]; try omega
    rintro e w4 ⟨rfl, l2⟩
    replace l1 := l1.trans l2
    clear l2
    go_wp2_with fail
    refine (routePartNo stZ St.zero _ _ _ (HasS.zero _) ?_).mono ?_
    · simp [logB, logsB]; try omega
    rintro e w5 ⟨rfl, l2⟩
    replace l1 := l1.trans (l2.trans (Le.alloc w5 (.cells (cells4 fun _ => slZ) 27)))
    clear l2
    go_wp2_with fail
    refine (routePartNo stZ St.zero _ _ _ (HasS.zero _) ?_).mono ?_
    · simp [logB, logsB]; try omega
    rintro e w6 ⟨rfl, l2⟩
    replace l1 := l1.trans (l2.trans (Le.alloc w6 (.cells (cells4 fun _ => slZ) 27)))
    clear l2
    go_wp2_with fail
    refine (routePartNo stZ St.zero _ _ _ (HasS.zero _) ?_).mono ?_
    · simp [logB, logsB]; try omega
    rintro e w7 ⟨rfl, l2⟩
    replace l1 := l1.trans (l2.trans (Le.alloc w7 (.cells (cells4 fun _ => slZ) 27)))
    clear l2
    go_wp2_with (go_at_call 12; refine (lawNum _ _).mono ?_; rintro e _ ⟨rfl, rfl⟩)
    go_ret
    exact ⟨rfl, l1⟩

end Go.Proofs.Ytafjaghaibagkaa
