/-
  PLAIN GROUND, NO WALK: the document's answer of two operations, either one first. No condition.
-/
import Derived.Test.YtnpejgendmgfaaaObjR
namespace Go.Proofs.Ytnpejgendmgfaaa
open Go.RowKit

/-- Two operations, one behind the other: the state behind both, the first one's answer, the second one's, the error. -/
def inS (o : Int) (s : St) (c r a c' r' a' : Int) : St × Int × Int × Int :=
  if (objS o s c r a 600).2.2 = 0 then
    ((objS o (objS o s c r a 600).1 c' r' a' 600).1, (objS o s c r a 600).2.1, (objS o (objS o s c r a 600).1 c' r' a' 600).2.1, (objS o (objS o s c r a 600).1 c' r' a' 600).2.2)
  else (St.zero, 0, 0, (objS o s c r a 600).2.2)

/-- May both be? -/
def bothMay (o : Int) (s : St) (c r a c' r' a' : Int) : Bool := (objMay o s && opMay c r a) && opMay c' r' a'
/-- Is it all one which goes first? -/
def bothB (o : Int) (s : St) (c r a c' r' a' : Int) : Bool :=
  decide ((objS o (objS o s c r a 0).1 c' r' a' 0).1 = (objS o (objS o s c' r' a' 0).1 c r a 0).1) &&
  decide ((objS o s c r a 0).2.1 = (objS o (objS o s c' r' a' 0).1 c r a 0).2.1) &&
  decide ((objS o s c' r' a' 0).2.1 = (objS o (objS o s c r a 0).1 c' r' a' 0).2.1)
/-- The document's answer. -/
def bothS (o : Int) (s : St) (c r a c' r' a' : Int) : Bool × Int := if bothMay o s c r a c' r' a' then (bothB o s c r a c' r' a', 0) else (false, 800)

theorem objS_scan0 {o : Int} {s : St} (er : Int) (hm : objMay o s = true) : (objS o s 3 0 0 er).1 = s := by
  rcases obj_cases (o := o) with rfl | rfl | rfl | hn
  · exact congrArg Prod.fst (stoS_scan (er := er) hm)
  · exact congrArg Prod.fst (fdsS_scan (er := er) hm)
  · exact congrArg Prod.fst (queS_scan (er := er) hm)
  · rw [objMay_out hn] at hm; cases hm

/-- What may be stays so. -/
theorem objS_may {o : Int} {s : St} {c r a : Int} (er : Int) (hm : objMay o s = true) (ho : opMay c r a = true) : objMay o (objS o s c r a er).1 = true := by
  by_cases hc : c = 3
  · subst hc
    have : r = 0 ∧ a = 0 := by simp [opMay] at ho; omega
    obtain ⟨rfl, rfl⟩ := this
    rw [objS_scan0 er hm]; exact hm
  · obtain ⟨_, _, r0, r3, _, _⟩ := opMay_bounds ho
    obtain ⟨k, rfl⟩ : ∃ k : Nat, r = k := ⟨r.toNat, by omega⟩
    rw [objS_row er hm ho hc]
    exact objMay_put hm (by omega) (rowF_may hm (objMay_row hm (by omega)) ho)

theorem objS_er {o : Int} {s : St} {c r a : Int} (er er' : Int) (hm : objMay o s = true) (ho : opMay c r a = true) : objS o s c r a er = objS o s c r a er' := by
  rw [objS_yes er (by rw [hm, ho]; rfl), objS_yes er' (by rw [hm, ho]; rfl)]
theorem objS_ok {o : Int} {s : St} {c r a : Int} (er : Int) (hm : objMay o s = true) (ho : opMay c r a = true) : (objS o s c r a er).2.2 = 0 := by
  rw [objS_yes er (by rw [hm, ho]; rfl)]

theorem bothMay_parts {o : Int} {s : St} {c r a c' r' a' : Int} (h : bothMay o s c r a c' r' a' = true) : objMay o s = true ∧ opMay c r a = true ∧ opMay c' r' a' = true := by
  simp only [bothMay, Bool.and_eq_true] at h; exact ⟨h.1.1, h.1.2, h.2⟩
theorem bothMay_turn (o : Int) (s : St) (c r a c' r' a' : Int) : bothMay o s c' r' a' c r a = bothMay o s c r a c' r' a' := by
  unfold bothMay; cases objMay o s <;> cases opMay c r a <;> cases opMay c' r' a' <;> rfl

theorem inS_yes {o : Int} {s : St} {c r a c' r' a' : Int} (h : bothMay o s c r a c' r' a' = true) :
    inS o s c r a c' r' a' = ((objS o (objS o s c r a 0).1 c' r' a' 0).1, (objS o s c r a 0).2.1, (objS o (objS o s c r a 0).1 c' r' a' 0).2.1, 0) := by
  obtain ⟨hm, h1, h2⟩ := bothMay_parts h
  unfold inS
  rw [objS_er 600 0 hm h1, if_pos (objS_ok 0 hm h1), objS_er 600 0 (objS_may 0 hm h1) h2, objS_ok 0 (objS_may 0 hm h1) h2]
theorem inS_no {o : Int} {s : St} {c r a c' r' a' : Int} (h : bothMay o s c r a c' r' a' = false) : (inS o s c r a c' r' a').2.2.2 = 600 := by
  unfold inS
  cases h1 : objMay o s && opMay c r a
  · rw [objS_no h1]; rfl
  · obtain ⟨hm, h1⟩ := Bool.and_eq_true_iff.mp h1
    have h2 : opMay c' r' a' = false := by simpa [bothMay, hm, h1] using h
    rw [if_pos (objS_ok 600 hm h1), objS_no (er := 600) (c := c') (r := r') (a := a') (by rw [h2, Bool.and_false])]
theorem Fit.inS {s : St} (h : Fit s) (o c r a c' r' a' : Int) : Fit (inS o s c r a c' r' a').1 := by
  unfold Go.Proofs.Ytnpejgendmgfaaa.inS
  split
  · exact (h.obj o c r a 600).obj o c' r' a' 600
  · exact fit_zero

theorem bothS_yes {o : Int} {s : St} {c r a c' r' a' : Int} (h : bothMay o s c r a c' r' a' = true) : bothS o s c r a c' r' a' = (bothB o s c r a c' r' a', 0) := by unfold bothS; rw [if_pos h]
theorem bothS_no {o : Int} {s : St} {c r a c' r' a' : Int} (h : bothMay o s c r a c' r' a' = false) : bothS o s c r a c' r' a' = (false, 800) := by unfold bothS; rw [h]; rfl
theorem bothS_err (o : Int) (s : St) (c r a c' r' a' : Int) : (bothS o s c r a c' r' a').2 = if bothMay o s c r a c' r' a' then 0 else 800 := by
  unfold bothS; split <;> rfl

/-- Either way round. -/
theorem bothB_turn (o : Int) (s : St) (c r a c' r' a' : Int) : bothB o s c' r' a' c r a = bothB o s c r a c' r' a' := by
  unfold bothB
  rw [Bool.and_assoc, Bool.and_assoc, Bool.and_comm (decide ((objS o s c' r' a' 0).2.1 = _))]
  congr 1
  exact decide_eq_decide.2 eq_comm

end Go.Proofs.Ytnpejgendmgfaaa
