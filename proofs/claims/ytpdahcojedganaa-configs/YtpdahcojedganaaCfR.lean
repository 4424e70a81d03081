/-
  THE WALKS over the document's own upTo, ConfigMay and ReplicaOf (chorusref13): what each answers, for every Config and every thread. No condition.
-/
import Derived.Test.YtpdahcojedganaaCfA
import Derived.Test.YtpdahcojedganaaRefSl
namespace Go.Proofs.Ytpdahcojedganaa
open Go.RowKit

theorem rmUpTo (x a b : Int) (w : World) : Calls Try.prog 16 #[.int .i64 x, .int .i64 a, .int .i64 b] w fun e w' => e = .returned (.bool (inB a x b)) ∧ w = w' := by
  by_cases h : a ≤ x
  all_goals
    go_enter Try.func16, Try.ntmps16
    go_wp2
    go_ret
    exact ⟨ret_bool (by simp [inB, h]; try omega), rfl⟩

set_option maxHeartbeats 2000000 in
theorem rmConfigMay (o r l t s : Int) (w : World) : Calls Try.prog 11 #[cfgV o r l t s] w fun e w' => e = .returned (.bool (cfgB o r l t s)) ∧ Le w w' := by
  have h1 := fun w' => rmUpTo o 0 2 w'
  have h2 := fun w' => rmUpTo r 1 2 w'
  have h3 := fun w' => rmUpTo l 1 2 w'
  have h4 := fun w' => rmUpTo t 1 4 w'
  have h5 := fun w' => refSlotsMay s w'
  cases k1 : inB 0 o 2
  · rw [k1] at h1
    go_enter Try.func11, Try.ntmps11
    go_wp2_with fail
    refine (h1 _).mono ?_; rintro e _ ⟨rfl, rfl⟩
    go_wp2_with fail
    go_ret
    exact ⟨ret_bool (by simp [cfgB, k1]), Le.alloc _ _⟩
  rw [k1] at h1
  cases k2 : inB 1 r 2
  · rw [k2] at h2
    go_enter Try.func11, Try.ntmps11
    go_wp2_with fail
    refine (h1 _).mono ?_; rintro e _ ⟨rfl, rfl⟩
    go_wp2_with fail
    refine (h2 _).mono ?_; rintro e _ ⟨rfl, rfl⟩
    go_wp2_with fail
    go_ret
    exact ⟨ret_bool (by simp [cfgB, k2]), Le.alloc _ _⟩
  rw [k2] at h2
  cases k3 : inB 1 l 2
  · rw [k3] at h3
    go_enter Try.func11, Try.ntmps11
    go_wp2_with fail
    refine (h1 _).mono ?_; rintro e _ ⟨rfl, rfl⟩
    go_wp2_with fail
    refine (h2 _).mono ?_; rintro e _ ⟨rfl, rfl⟩
    go_wp2_with fail
    refine (h3 _).mono ?_; rintro e _ ⟨rfl, rfl⟩
    go_wp2_with fail
    go_ret
    exact ⟨ret_bool (by simp [cfgB, k3]), Le.alloc _ _⟩
  rw [k3] at h3
  cases k4 : inB 1 t 4
  · rw [k4] at h4
    go_enter Try.func11, Try.ntmps11
    go_wp2_with fail
    refine (h1 _).mono ?_; rintro e _ ⟨rfl, rfl⟩
    go_wp2_with fail
    refine (h2 _).mono ?_; rintro e _ ⟨rfl, rfl⟩
    go_wp2_with fail
    refine (h3 _).mono ?_; rintro e _ ⟨rfl, rfl⟩
    go_wp2_with fail
    refine (h4 _).mono ?_; rintro e _ ⟨rfl, rfl⟩
    go_wp2_with fail
    go_ret
    exact ⟨ret_bool (by simp [cfgB, k4]), Le.alloc _ _⟩
  rw [k4] at h4
  obtain ⟨t0, t1⟩ := inB_cases k4
  have hb : cfgB o r l t s = (slotsB s && decide (2 * t ≤ s)) := by simp [cfgB, k1, k2, k3, k4]
  rw [hb]
  cases k5 : slotsB s
  all_goals
    rw [k5] at h5
    go_enter Try.func11, Try.ntmps11
    go_wp2_with fail
    refine (h1 _).mono ?_; rintro e _ ⟨rfl, rfl⟩
    go_wp2_with fail
    refine (h2 _).mono ?_; rintro e _ ⟨rfl, rfl⟩
    go_wp2_with fail
    refine (h3 _).mono ?_; rintro e _ ⟨rfl, rfl⟩
    go_wp2_with fail
    refine (h4 _).mono ?_; rintro e _ ⟨rfl, rfl⟩
    go_wp2_with fail
    refine (h5 _).mono ?_; rintro e _ ⟨rfl, rfl⟩
    go_wp2_with fail
    go_ret
    exact ⟨ret_bool (by simp), Le.alloc _ _⟩

set_option maxHeartbeats 2000000 in
theorem rmReplicaOf (o r l t s k : Int) (w : World) : Calls Try.prog 8 #[cfgV o r l t s, .int .i64 k] w fun e w' => e = .returned (.tuple #[.int .i64 (repS o r l t s k).1, .int .i64 (repS o r l t s k).2]) ∧ Le w w' := by
  have h1 := fun w' => rmConfigMay o r l t s w'
  have hl := Le.alloc w (.cells #[.int .i64 o, .int .i64 r, .int .i64 l, .int .i64 t, .int .i64 s] 23)
  have hb := Box.new w #[.int .i64 o, .int .i64 r, .int .i64 l, .int .i64 t, .int .i64 s] 23
  cases hc : cfgB o r l t s
  · rw [repS_no (.inl hc)]
    rw [hc] at h1
    go_enter Try.func8, Try.ntmps8
    go_wp2_with fail
    refine (h1 _).mono ?_; rintro e w1 ⟨rfl, l1⟩
    go_wp2_with fail
    go_ret2
    exact ⟨rfl, hl.trans l1⟩
  rw [hc] at h1
  rcases (by omega : k < 0 ∨ (0 ≤ k ∧ t ≤ k) ∨ (0 ≤ k ∧ k < t)) with h | ⟨h, h'⟩ | ⟨h, h'⟩
  · rw [repS_no (.inr (.inl h))]
    go_enter Try.func8, Try.ntmps8
    go_wp2_with fail
    refine (h1 _).mono ?_; rintro e w1 ⟨rfl, l1⟩
    go_wp2_with fail
    go_ret2
    exact ⟨rfl, hl.trans l1⟩
  · rw [repS_no (.inr (.inr h'))]
    go_enter Try.func8, Try.ntmps8
    go_wp2_with fail
    refine (h1 _).mono ?_; rintro e w1 ⟨rfl, l1⟩
    obtain ⟨y0, y1, y2, y3, y4⟩ := (hb.le l1).slot
    go_wp2_with fail
    go_ret2
    exact ⟨rfl, hl.trans l1⟩
  · rw [repS_yes hc h h']
    obtain ⟨_, ⟨r0, r1⟩, _⟩ := cfgB_cases hc
    have hr : ¬ r = 0 := by omega
    have hm : k.tmod r = k % r := Int.tmod_eq_emod_of_nonneg h
    generalize k % r = q at hm
    go_enter Try.func8, Try.ntmps8
    go_wp2_with fail
    refine (h1 _).mono ?_; rintro e w1 ⟨rfl, l1⟩
    obtain ⟨y0, y1, y2, y3, y4⟩ := (hb.le l1).slot
    go_wp2_with fail
    go_ret2
    exact ⟨rfl, hl.trans l1⟩

end Go.Proofs.Ytpdahcojedganaa
