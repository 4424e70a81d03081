/-
  THE WALKS over package route's mayLogs, logOf and Log: what each answers, for every operation and number. No condition.
-/
import Derived.Test.YtafjaghaibagkaaRoS
namespace Go.Proofs.Ytafjaghaibagkaa
open Go.RowKit

theorem routeMayLogs (n : Int) (w : World) : Calls Try.prog 19 #[.int .i64 n] w fun e w' => e = .returned (.bool (logsB n)) ∧ w = w' := by
  by_cases h : 1 ≤ n
  all_goals
    go_enter Try.func19, Try.ntmps19
    go_wp2
    go_ret
    exact ⟨ret_bool (by simp [logsB]; try omega), rfl⟩

theorem routeLogOf (r n : Int) (hn : n = 1 ∨ n = 2) (hr : 0 ≤ r ∧ r ≤ 3) (w : World) : Calls Try.prog 20 #[.int .i64 r, .int .i64 n] w fun e w' => e = .returned (.int .i64 (r.tmod n)) ∧ w = w' := by
  rcases (by omega : r = 0 ∨ r = 1 ∨ r = 2 ∨ r = 3) with rfl | rfl | rfl | rfl <;> rcases hn with rfl | rfl
  all_goals
    go_enter Try.func20, Try.ntmps20
    go_wp2
    go_ret
    exact ⟨rfl, rfl⟩

set_option maxHeartbeats 1000000 in
theorem routeLog (c r a n : Int) (w : World) :
    Calls Try.prog 8 #[opV c r a, .int .i64 n] w fun e w' => e = .returned (.tuple #[.int .i64 (logS c r a n).1, .int .i64 (logS c r a n).2]) ∧ Le w w' := by
  have hb := Box.new w #[.int .i64 c, .int .i64 r, .int .i64 a] 23
  have hl := Le.alloc w (.cells #[.int .i64 c, .int .i64 r, .int .i64 a] 23)
  have hmay := fun w' => operMay c r a w'
  have hml := fun w' => routeMayLogs n w'
  cases hm : opMay c r a
  · rw [logS_no (.inl hm)]
    rw [hm] at hmay
    go_enter Try.func8, Try.ntmps8
    go_wp2_with fail
    refine (hmay _).mono ?_
    rintro e w1 ⟨rfl, l1⟩
    go_wp2_with fail
    go_ret2
    exact ⟨rfl, hl.trans l1⟩
  rw [hm] at hmay
  by_cases hc : c = 3
  · rw [logS_no (.inr (.inl hc))]
    subst hc
    go_enter Try.func8, Try.ntmps8
    go_wp2_with fail
    refine (hmay _).mono ?_
    rintro e w1 ⟨rfl, l1⟩
    obtain ⟨y0, y1, y2, _, _, _⟩ := (hb.le l1).op
    go_wp2_with fail
    go_ret2
    exact ⟨rfl, hl.trans l1⟩
  have hc' : (c == 3) = false := by simp [hc]
  cases hn : logsB n
  · rw [logS_no (.inr (.inr hn))]
    rw [hn] at hml
    clear hc
    go_enter Try.func8, Try.ntmps8
    go_wp2_with fail
    refine (hmay _).mono ?_
    rintro e w1 ⟨rfl, l1⟩
    obtain ⟨y0, y1, y2, _, _, _⟩ := (hb.le l1).op
    go_wp2_with fail
    refine (hml _).mono ?_
    rintro e _ ⟨rfl, rfl⟩
    go_wp2_with fail
    go_ret2
    exact ⟨rfl, hl.trans l1⟩
  · rw [logS_yes hm hc hn]
    rw [hn] at hml
    have hlo := fun w' => routeLogOf r n (logsB_cases hn) (by have := opMay_bounds hm; omega) w'
    clear hc
    generalize r.tmod n = q at hlo ⊢
    go_enter Try.func8, Try.ntmps8
    go_wp2_with fail
    refine (hmay _).mono ?_
    rintro e w1 ⟨rfl, l1⟩
    obtain ⟨y0, y1, y2, _, _, _⟩ := (hb.le l1).op
    go_wp2_with fail
    refine (hml _).mono ?_
    rintro e _ ⟨rfl, rfl⟩
    go_wp2_with fail
    refine (hlo _).mono ?_
    rintro e _ ⟨rfl, rfl⟩
    go_wp2_with fail
    go_ret2
    exact ⟨rfl, hl.trans l1⟩

end Go.Proofs.Ytafjaghaibagkaa
