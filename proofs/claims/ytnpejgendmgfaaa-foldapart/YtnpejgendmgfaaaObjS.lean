/-
  PLAIN GROUND, NO WALK: the document's answer of one of three objects. No condition.
-/
import Derived.Test.YtnpejgendmgfaaaStoreC
import Derived.Test.YtnpejgendmgfaaaFdsD
import Derived.Test.YtnpejgendmgfaaaQueC
namespace Go.Proofs.Ytnpejgendmgfaaa
open Go.RowKit

/-- May a row be the object's? -/
def rowMayO (o : Int) (xs : List Int) : Bool := if o = 0 then rowMay1 xs else if o = 1 then rowMay2 xs else rowMay3 xs
/-- May it be such a state? -/
def objMay (o : Int) (s : St) : Bool := (decide (0 ≤ o) && decide (o ≤ 2)) && s.all (rowMayO o)
/-- The document's answer of object o: the state, the answer, the error. -/
def objS (o : Int) (s : St) (c r a e : Int) : St × Int × Int :=
  if o = 0 then stoS s c r a e else if o = 1 then fdsS s c r a e else if o = 2 then queS s c r a e else (St.zero, 0, e)

theorem objMay0 (s : St) : objMay 0 s = s.all rowMay1 := rfl
theorem objMay1 (s : St) : objMay 1 s = s.all rowMay2 := rfl
theorem objMay2 (s : St) : objMay 2 s = s.all rowMay3 := rfl
theorem objMay_out {o : Int} (h : o < 0 ∨ 2 < o) (s : St) : objMay o s = false := by
  have : (decide (0 ≤ o) && decide (o ≤ 2)) = false := by simp; omega
  simp [objMay, this]
theorem objS_out {o : Int} (h : o < 0 ∨ 2 < o) (s : St) (c r a e : Int) : objS o s c r a e = (St.zero, 0, e) := by
  unfold objS
  rw [if_neg (by omega), if_neg (by omega), if_neg (by omega)]
theorem obj_cases {o : Int} : o = 0 ∨ o = 1 ∨ o = 2 ∨ (o < 0 ∨ 2 < o) := by omega

theorem stoS_err {s : St} {c r a er : Int} (h : (s.all rowMay1 && opMay c r a) = true) : stoS s c r a er = ((stoS s c r a 0).1, (stoS s c r a 0).2.1, 0) := by
  simp only [stoS, if_pos h]
  split <;> rfl

theorem fdsS_err {s : St} {c r a er : Int} (h : (s.all rowMay2 && opMay c r a) = true) : fdsS s c r a er = ((fdsS s c r a 0).1, (fdsS s c r a 0).2.1, 0) := by
  rw [show fdsS s c r a 0 = _ from cntS_yes h]; exact cntS_yes h
theorem queS_err {s : St} {c r a er : Int} (h : (s.all rowMay3 && opMay c r a) = true) : queS s c r a er = ((queS s c r a 0).1, (queS s c r a 0).2.1, 0) := by
  rw [show queS s c r a 0 = _ from cntS_yes h]; exact cntS_yes h

theorem objS_no {o : Int} {s : St} {c r a er : Int} (h : (objMay o s && opMay c r a) = false) : objS o s c r a er = (St.zero, 0, er) := by
  rcases obj_cases (o := o) with rfl | rfl | rfl | ho
  · exact stoS_no h
  · exact fdsS_no h
  · exact queS_no h
  · exact objS_out ho _ _ _ _ _
theorem objS_yes {o : Int} {s : St} {c r a : Int} (er : Int) (h : (objMay o s && opMay c r a) = true) : objS o s c r a er = ((objS o s c r a 0).1, (objS o s c r a 0).2.1, 0) := by
  rcases obj_cases (o := o) with rfl | rfl | rfl | ho
  · exact stoS_err h
  · exact fdsS_err h
  · exact queS_err h
  · rw [objMay_out ho] at h; simp at h
theorem Fit.obj {s : St} (h : Fit s) (o c r a er : Int) : Fit (objS o s c r a er).1 := by
  rcases obj_cases (o := o) with rfl | rfl | rfl | ho
  · exact h.sto c r a er
  · exact h.fds c r a er
  · exact h.que c r a er
  · rw [objS_out ho]; exact fit_zero

end Go.Proofs.Ytnpejgendmgfaaa
