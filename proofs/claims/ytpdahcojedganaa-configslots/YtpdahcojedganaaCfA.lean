/-
  THE WALKS over package config (mayObject, mayCount, maySlots, May, Replica): what each answers, for every Config and every thread. maySlots: threads from 1 to 4, as May asks ahead of it.
-/
import Derived.Test.YtpdahcojedganaaSlA
namespace Go.Proofs.Ytpdahcojedganaa
open Go.RowKit

/-- From a least to a most? -/
def inB (a x b : Int) : Bool := decide (a ≤ x) && decide (x ≤ b)
theorem inB_cases {a x b : Int} (h : inB a x b = true) : a ≤ x ∧ x ≤ b := by simp [inB] at h; omega
theorem inB_no {a x b : Int} (h : inB a x b = false) : x < a ∨ b < x := by simp [inB] at h; omega
theorem inB_of {a x b : Int} (h : a ≤ x) (k : x ≤ b) : inB a x b = true := by simp [inB, h, k]
theorem inB_off {a x b : Int} (h : x < a ∨ b < x) : inB a x b = false := by simp [inB]; omega

/-- A Config's value: object, replicas, logs, threads, slots. -/
abbrev cfgV (o r l t s : Int) : Value := .agg #[.int .i64 o, .int .i64 r, .int .i64 l, .int .i64 t, .int .i64 s]
/-- May it be? -/
def cfgB (o r l t s : Int) : Bool := inB 0 o 2 && (inB 1 r 2 && (inB 1 l 2 && (inB 1 t 4 && (slotsB s && decide (2 * t ≤ s)))))
/-- Which replica a thread is at. -/
def repS (o r l t s k : Int) : Int × Int := if cfgB o r l t s && (decide (0 ≤ k) && decide (k < t)) then (k % r, 0) else (0, 1300)
theorem cfgB_cases {o r l t s : Int} (h : cfgB o r l t s = true) : (0 ≤ o ∧ o ≤ 2) ∧ (1 ≤ r ∧ r ≤ 2) ∧ (1 ≤ l ∧ l ≤ 2) ∧ (1 ≤ t ∧ t ≤ 4) ∧ slotsB s = true ∧ 2 * t ≤ s := by
  simp only [cfgB, Bool.and_eq_true, decide_eq_true_eq] at h
  obtain ⟨h1, h2, h3, h4, h5, h6⟩ := h
  exact ⟨inB_cases h1, inB_cases h2, inB_cases h3, inB_cases h4, h5, h6⟩
theorem repS_yes {o r l t s k : Int} (h : cfgB o r l t s = true) (h0 : 0 ≤ k) (h1 : k < t) : repS o r l t s k = (k % r, 0) := by simp [repS, h, h0, h1]
theorem repS_no {o r l t s k : Int} (h : cfgB o r l t s = false ∨ k < 0 ∨ t ≤ k) : repS o r l t s k = (0, 1300) := by
  rcases h with h | h | h
  · simp [repS, h]
  · have : ¬ 0 ≤ k := by omega
    simp [repS, this]
  · have : ¬ k < t := by omega
    simp [repS, this]

theorem cfgMayObject (o : Int) (w : World) : Calls Try.prog 13 #[.int .i64 o] w fun e w' => e = .returned (.bool (inB 0 o 2)) ∧ w = w' := by
  rcases (by omega : o = 0 ∨ o = 1 ∨ o = 2 ∨ (o ≠ 0 ∧ o ≠ 1 ∧ o ≠ 2)) with rfl | rfl | rfl | ⟨h1, h2, h3⟩
  iterate 3
    · go_enter Try.func13, Try.ntmps13
      go_wp2
      go_ret
      exact ⟨ret_bool (by decide), rfl⟩
  · go_enter Try.func13, Try.ntmps13
    go_wp2
    go_ret
    exact ⟨ret_bool (by simp [inB]; omega), rfl⟩

theorem cfgMayCount (x m : Int) (w : World) : Calls Try.prog 14 #[.int .i64 x, .int .i64 m] w fun e w' => e = .returned (.bool (inB 1 x m)) ∧ w = w' := by
  by_cases h : 1 ≤ x
  all_goals
    go_enter Try.func14, Try.ntmps14
    go_wp2
    go_ret
    exact ⟨ret_bool (by simp [inB, h]; try omega), rfl⟩

set_option maxHeartbeats 1000000 in
theorem cfgMaySlots (s t : Int) (t0 : 1 ≤ t) (t1 : t ≤ 4) (w : World) : Calls Try.prog 15 #[.int .i64 s, .int .i64 t] w fun e w' => e = .returned (.bool (slotsB s && decide (2 * t ≤ s))) ∧ w = w' := by
  have h1 := fun w' => slotBit 0 s w'
  cases hs : slotsB s
  · rw [bitS_no (.inl hs)] at h1
    go_enter Try.func15, Try.ntmps15
    go_wp2_with (go_at_call 18; refine (h1 _).mono ?_; rintro e _ ⟨rfl, rfl⟩)
    go_ret
    exact ⟨ret_bool (by simp), rfl⟩
  · rw [bitS_yes hs (by decide)] at h1
    generalize bitAt 0 s = q at h1
    go_enter Try.func15, Try.ntmps15
    go_wp2_with (go_at_call 18; refine (h1 _).mono ?_; rintro e _ ⟨rfl, rfl⟩)
    go_ret
    exact ⟨ret_bool (by simp), rfl⟩

set_option maxHeartbeats 2000000 in
theorem cfgMay (o r l t s : Int) (w : World) : Calls Try.prog 10 #[cfgV o r l t s] w fun e w' => e = .returned (.bool (cfgB o r l t s)) ∧ Le w w' := by
  have h1 := fun w' => cfgMayObject o w'
  have h2 := fun w' => cfgMayCount r 2 w'
  have h3 := fun w' => cfgMayCount l 2 w'
  have h4 := fun w' => cfgMayCount t 4 w'
  cases k1 : inB 0 o 2
  · rw [k1] at h1
    go_enter Try.func10, Try.ntmps10
    go_wp2_with (first | (go_at_call 13; refine (h1 _).mono ?_; rintro e _ ⟨rfl, rfl⟩))
    go_ret
    exact ⟨ret_bool (by simp [cfgB, k1]), Le.alloc _ _⟩
  rw [k1] at h1
  cases k2 : inB 1 r 2
  · rw [k2] at h2
    go_enter Try.func10, Try.ntmps10
    go_wp2_with fail
    refine (h1 _).mono ?_; rintro e _ ⟨rfl, rfl⟩
    go_wp2_with fail
    refine (h2 _).mono ?_; rintro e _ ⟨rfl, rfl⟩
    go_wp2_with fail
    go_ret
    exact ⟨ret_bool (by simp [cfgB, k2]), Le.alloc _ _⟩
  rw [k2] at h2
  cases k3 : inB 1 l 2
  · rw [k3] at h3
    go_enter Try.func10, Try.ntmps10
    go_wp2_with fail
    refine (h1 _).mono ?_; rintro e _ ⟨rfl, rfl⟩
    go_wp2_with fail
    refine (h2 _).mono ?_; rintro e _ ⟨rfl, rfl⟩
    go_wp2_with fail
    refine (h3 _).mono ?_; rintro e _ ⟨rfl, rfl⟩
    go_wp2_with fail
    go_ret
    exact ⟨ret_bool (by simp [cfgB, k3]), Le.alloc _ _⟩
  rw [k3] at h3
  cases k4 : inB 1 t 4
  · rw [k4] at h4
    go_enter Try.func10, Try.ntmps10
    go_wp2_with fail
    refine (h1 _).mono ?_; rintro e _ ⟨rfl, rfl⟩
    go_wp2_with fail
    refine (h2 _).mono ?_; rintro e _ ⟨rfl, rfl⟩
    go_wp2_with fail
    refine (h3 _).mono ?_; rintro e _ ⟨rfl, rfl⟩
    go_wp2_with fail
    refine (h4 _).mono ?_; rintro e _ ⟨rfl, rfl⟩
    go_wp2_with fail
    go_ret
    exact ⟨ret_bool (by simp [cfgB, k4]), Le.alloc _ _⟩
  rw [k4] at h4
  obtain ⟨t0, t1⟩ := inB_cases k4
  have h5 := fun w' => cfgMaySlots s t t0 t1 w'
  have hb : cfgB o r l t s = (slotsB s && decide (2 * t ≤ s)) := by simp [cfgB, k1, k2, k3, k4]
  rw [hb]
  generalize (slotsB s && decide (2 * t ≤ s)) = b at h5
  go_enter Try.func10, Try.ntmps10
  go_wp2_with fail
  refine (h1 _).mono ?_; rintro e _ ⟨rfl, rfl⟩
  go_wp2_with fail
  refine (h2 _).mono ?_; rintro e _ ⟨rfl, rfl⟩
  go_wp2_with fail
  refine (h3 _).mono ?_; rintro e _ ⟨rfl, rfl⟩
  go_wp2_with fail
  refine (h4 _).mono ?_; rintro e _ ⟨rfl, rfl⟩
  go_wp2_with fail
  refine (h5 _).mono ?_; rintro e _ ⟨rfl, rfl⟩
  go_wp2_with fail
  go_ret
  exact ⟨rfl, Le.alloc _ _⟩

set_option maxHeartbeats 2000000 in
theorem cfgReplica (o r l t s k : Int) (w : World) : Calls Try.prog 7 #[cfgV o r l t s, .int .i64 k] w fun e w' => e = .returned (.tuple #[.int .i64 (repS o r l t s k).1, .int .i64 (repS o r l t s k).2]) ∧ Le w w' := by
  have h1 := fun w' => cfgMay o r l t s w'
  have hl := Le.alloc w (.cells #[.int .i64 o, .int .i64 r, .int .i64 l, .int .i64 t, .int .i64 s] 23)
  have hb := Box.new w #[.int .i64 o, .int .i64 r, .int .i64 l, .int .i64 t, .int .i64 s] 23
  cases hc : cfgB o r l t s
  · rw [repS_no (.inl hc)]
    rw [hc] at h1
    go_enter Try.func7, Try.ntmps7
    go_wp2_with fail
    refine (h1 _).mono ?_; rintro e w1 ⟨rfl, l1⟩
    go_wp2_with fail
    go_ret2
    exact ⟨rfl, hl.trans l1⟩
  rw [hc] at h1
  rcases (by omega : k < 0 ∨ (0 ≤ k ∧ t ≤ k) ∨ (0 ≤ k ∧ k < t)) with h | ⟨h, h'⟩ | ⟨h, h'⟩
  · rw [repS_no (.inr (.inl h))]
    go_enter Try.func7, Try.ntmps7
    go_wp2_with fail
    refine (h1 _).mono ?_; rintro e w1 ⟨rfl, l1⟩
    go_wp2_with fail
    go_ret2
    exact ⟨rfl, hl.trans l1⟩
  · rw [repS_no (.inr (.inr h'))]
    go_enter Try.func7, Try.ntmps7
    go_wp2_with fail
    refine (h1 _).mono ?_; rintro e w1 ⟨rfl, l1⟩
    obtain ⟨y0, y1, y2, y3, y4⟩ := (hb.le l1).slot
    go_wp2_with fail
    go_ret2
    exact ⟨rfl, hl.trans l1⟩
  · rw [repS_yes hc h h']
    obtain ⟨_, ⟨r0, r1⟩, _⟩ := cfgB_cases hc
    have hr : ¬ r = 0 := by omega
    have hm : k.tmod r = k % r := Int.tmod_eq_emod_of_nonneg h
    generalize k % r = q at hm
    go_enter Try.func7, Try.ntmps7
    go_wp2_with fail
    refine (h1 _).mono ?_; rintro e w1 ⟨rfl, l1⟩
    obtain ⟨y0, y1, y2, y3, y4⟩ := (hb.le l1).slot
    go_wp2_with fail
    go_ret2
    exact ⟨rfl, hl.trans l1⟩

end Go.Proofs.Ytpdahcojedganaa
