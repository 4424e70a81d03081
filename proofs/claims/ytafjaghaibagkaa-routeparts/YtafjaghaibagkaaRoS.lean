/-
  PLAIN GROUND, NO WALK: which log an operation goes into, and a log's part of a state: the document's answers as functions. No condition.
-/
import Derived.Test.YtafjaghaibagkaaObj
import Derived.Test.YtafjaghaibagkaaStPut2
namespace Go.Proofs.Ytafjaghaibagkaa
open Go.RowKit

/-- May there be so many logs? -/
def logsB (n : Int) : Bool := decide (1 ≤ n) && decide (n ≤ 2)
/-- The log of an operation; the error. -/
def logS (c r a n : Int) : Int × Int := if opMay c r a = true ∧ c ≠ 3 ∧ logsB n = true then (r.tmod n, 0) else (0, 700)
/-- May there be this log of so many? -/
def logB (g n : Int) : Bool := logsB n && decide (0 ≤ g) && decide (g < n)
/-- The rows whose number modulo n is g, the others empty. -/
def partOf (s : St) (g n : Int) : St :=
  ⟨if (0 : Int).tmod n = g then s.r0 else [], if (1 : Int).tmod n = g then s.r1 else [], if (2 : Int).tmod n = g then s.r2 else [], if (3 : Int).tmod n = g then s.r3 else []⟩
/-- A log's part of a state; the error. -/
def partS (s : St) (g n : Int) : St × Int := if logB g n = true then (partOf s g n, 0) else (St.zero, 700)

theorem logsB_cases {n : Int} (h : logsB n = true) : n = 1 ∨ n = 2 := by
  simp [logsB] at h; omega
theorem logB_cases {g n : Int} (h : logB g n = true) : (g = 0 ∧ n = 1) ∨ (g = 0 ∧ n = 2) ∨ (g = 1 ∧ n = 2) := by
  simp [logB, logsB] at h; omega

theorem partOf_at (s : St) (g n : Int) {i : Nat} (hi : i < 4) : (partOf s g n).at i = if (i : Int).tmod n = g then s.at i else [] := by
  rcases four hi with rfl | rfl | rfl | rfl <;> rfl

theorem Fit.part {s : St} (h : Fit s) (g n : Int) : Fit (partOf s g n) := by
  intro i hi
  rw [partOf_at s g n hi]
  have := h i hi
  split
  · exact this
  · decide
theorem Fit.partS {s : St} (h : Fit s) (g n : Int) : Fit (partS s g n).1 := by
  unfold Go.Proofs.Ytafjaghaibagkaa.partS; split
  · exact h.part g n
  · exact fit_zero

theorem logS_yes {c r a n : Int} (h : opMay c r a = true) (hc : c ≠ 3) (hn : logsB n = true) : logS c r a n = (r.tmod n, 0) := by
  unfold logS; rw [if_pos ⟨h, hc, hn⟩]
theorem logS_no {c r a n : Int} (h : opMay c r a = false ∨ c = 3 ∨ logsB n = false) : logS c r a n = (0, 700) := by
  unfold logS; rw [if_neg]; rintro ⟨h1, h2, h3⟩
  rcases h with h | h | h
  · rw [h] at h1; cases h1
  · exact h2 h
  · rw [h] at h3; cases h3
theorem partS_yes {s : St} {g n : Int} (h : logB g n = true) : partS s g n = (partOf s g n, 0) := by
  unfold partS; rw [if_pos h]
theorem partS_no {s : St} {g n : Int} (h : logB g n = false) : partS s g n = (St.zero, 700) := by
  unfold partS; rw [if_neg (by rw [h]; decide)]

end Go.Proofs.Ytafjaghaibagkaa
