/-
  PLAIN GROUND, NO WALK: the document's answer of a fold: one operation behind the other. No condition.
-/
import Derived.Test.YtnpejgendmgfaaaComS
import Derived.Test.YtnpejgendmgfaaaOpsA
namespace Go.Proofs.Ytnpejgendmgfaaa
open Go.RowKit

/-- May it be? -/
def Opr.may (p : Opr) : Bool := opMay p.c p.r p.a
/-- May all of them be? -/
def opsMay (ps : List Opr) : Bool := ps.all Opr.may
/-- The state that one leaves, and its answer. -/
def stepS (o : Int) (s : St) (p : Opr) : St := (objS o s p.c p.r p.a 0).1
def stepA (o : Int) (s : St) (p : Opr) : Int := (objS o s p.c p.r p.a 0).2.1
/-- The state behind them, one behind the other. -/
def foldSt (o : Int) : St → List Opr → St
  | s, [] => s
  | s, p :: ps => foldSt o (stepS o s p) ps
/-- Their answers. -/
def foldAn (o : Int) : St → List Opr → List Int
  | _, [] => []
  | s, p :: ps => stepA o s p :: foldAn o (stepS o s p) ps
def foldMay (o : Int) (s : St) (ps : List Opr) : Bool := objMay o s && opsMay ps
/-- The document's answer. -/
def foldS (o : Int) (s : St) (ps : List Opr) (er : Int) : St × List Int × Int := if foldMay o s ps then (foldSt o s ps, foldAn o s ps, 0) else (St.zero, [], er)

theorem foldS_yes {o : Int} {s : St} {ps : List Opr} (er : Int) (h : foldMay o s ps = true) : foldS o s ps er = (foldSt o s ps, foldAn o s ps, 0) := by unfold foldS; rw [if_pos h]
theorem foldS_no {o : Int} {s : St} {ps : List Opr} (er : Int) (h : foldMay o s ps = false) : foldS o s ps er = (St.zero, [], er) := by unfold foldS; rw [h]; rfl

theorem foldSt_append (o : Int) : ∀ (s : St) (ps qs : List Opr), foldSt o s (ps ++ qs) = foldSt o (foldSt o s ps) qs
  | _, [], _ => rfl
  | s, p :: ps, qs => by simp only [List.cons_append, foldSt]; exact foldSt_append o _ ps qs
theorem foldAn_append (o : Int) : ∀ (s : St) (ps qs : List Opr), foldAn o s (ps ++ qs) = foldAn o s ps ++ foldAn o (foldSt o s ps) qs
  | _, [], _ => rfl
  | s, p :: ps, qs => by simp only [List.cons_append, foldAn, foldSt]; rw [foldAn_append o _ ps qs]
theorem foldAn_len (o : Int) : ∀ (s : St) (ps : List Opr), (foldAn o s ps).length = ps.length
  | _, [] => rfl
  | s, p :: ps => by simp only [foldAn, List.length_cons, foldAn_len o _ ps]

theorem take_op {ps : List Opr} {k : Nat} (h : k < ps.length) : ps.take (k + 1) = ps.take k ++ [ps.getD k Opr.zero] := by
  rw [List.take_succ_eq_append_getElem h]; simp [List.getD, h]
theorem foldSt_take {o : Int} {s : St} {ps : List Opr} {k : Nat} (h : k < ps.length) : foldSt o s (ps.take (k + 1)) = stepS o (foldSt o s (ps.take k)) (ps.getD k Opr.zero) := by
  rw [take_op h, foldSt_append]; rfl
theorem foldAn_take {o : Int} {s : St} {ps : List Opr} {k : Nat} (h : k < ps.length) : foldAn o s (ps.take (k + 1)) = foldAn o s (ps.take k) ++ [stepA o (foldSt o s (ps.take k)) (ps.getD k Opr.zero)] := by
  rw [take_op h, foldAn_append]; rfl
theorem opsMay_take {ps : List Opr} {k : Nat} (h : k < ps.length) : opsMay (ps.take (k + 1)) = (opsMay (ps.take k) && (ps.getD k Opr.zero).may) := by
  rw [take_op h]; simp [opsMay]
theorem opsMay_append (ps qs : List Opr) : opsMay (ps ++ qs) = (opsMay ps && opsMay qs) := by simp [opsMay]
theorem opsMay_bad {ps : List Opr} {k : Nat} (h : k < ps.length) (hb : (ps.getD k Opr.zero).may = false) : opsMay ps = false := by
  unfold opsMay
  rw [List.all_eq_false]
  refine ⟨ps.getD k Opr.zero, ?_, by rw [hb]; simp⟩
  simp [List.getD, h]
theorem opsMay_at {ps : List Opr} {k : Nat} (h : k < ps.length) (hm : opsMay ps = true) : (ps.getD k Opr.zero).may = true := by
  cases hb : (ps.getD k Opr.zero).may
  · rw [opsMay_bad h hb] at hm; cases hm
  · rfl

theorem stepS_may {o : Int} {s : St} {p : Opr} (hm : objMay o s = true) (hp : p.may = true) : objMay o (stepS o s p) = true := objS_may 0 hm hp
theorem foldSt_may {o : Int} : ∀ {s : St} {ps : List Opr}, objMay o s = true → opsMay ps = true → objMay o (foldSt o s ps) = true
  | _, [], hm, _ => hm
  | _, p :: ps, hm, hp => by
    simp only [opsMay, List.all_cons, Bool.and_eq_true] at hp
    exact foldSt_may (ps := ps) (stepS_may hm hp.1) hp.2
theorem Fit.step {s : St} (h : Fit s) (o : Int) (p : Opr) : Fit (stepS o s p) := h.obj o p.c p.r p.a 0
theorem Fit.foldSt {o : Int} : ∀ {s : St} {ps : List Opr}, Fit s → Fit (foldSt o s ps)
  | _, [], h => h
  | _, p :: ps, h => Fit.foldSt (ps := ps) (h.step o p)
theorem Fit.fold {s : St} (h : Fit s) (o : Int) (ps : List Opr) (er : Int) : Fit (foldS o s ps er).1 := by
  unfold foldS; split
  · exact h.foldSt
  · exact fit_zero
theorem foldS_len (o : Int) (s : St) (ps : List Opr) (er : Int) : (foldS o s ps er).2.1.length ≤ ps.length := by
  unfold foldS; split
  · exact Nat.le_of_eq (foldAn_len o s ps)
  · exact Nat.zero_le _

/-- What Apply answers, upon a state that may be. -/
theorem objS_step {o : Int} {s : St} {p : Opr} (er : Int) (hm : objMay o s = true) (hp : p.may = true) : objS o s p.c p.r p.a er = (stepS o s p, stepA o s p, 0) := by
  rw [objS_yes er (by rw [hm]; exact hp)]; rfl
theorem objS_bad {o : Int} {s : St} {p : Opr} (er : Int) (hp : p.may = false) : objS o s p.c p.r p.a er = (St.zero, 0, er) := by
  exact objS_no (by rw [show opMay p.c p.r p.a = false from hp, Bool.and_false])

/-- The answers so far, and zeros behind them. -/
def answers (o : Int) (s : St) (ps : List Opr) (k : Nat) : List Int := foldAn o s (ps.take k) ++ List.replicate (ps.length - k) 0
theorem answers_len {o : Int} {s : St} {ps : List Opr} {k : Nat} (h : k ≤ ps.length) : (answers o s ps k).length = ps.length := by
  simp [answers, foldAn_len]; omega
theorem answers_zero (o : Int) (s : St) (ps : List Opr) : answers o s ps 0 = List.replicate ps.length 0 := by simp [answers, foldAn]
theorem answers_all (o : Int) (s : St) (ps : List Opr) : answers o s ps ps.length = foldAn o s ps := by simp [answers]
theorem answers_next {o : Int} {s : St} {ps : List Opr} {k : Nat} (h : k < ps.length) : (answers o s ps k).set k (stepA o (foldSt o s (ps.take k)) (ps.getD k Opr.zero)) = answers o s ps (k + 1) := by
  have hl : (foldAn o s (ps.take k)).length = k := by rw [foldAn_len, List.length_take]; omega
  unfold answers
  rw [foldAn_take h, List.set_append_right _ _ (by omega), hl, Nat.sub_self, show ps.length - k = (ps.length - (k + 1)) + 1 by omega, List.replicate_succ]
  simp

end Go.Proofs.Ytnpejgendmgfaaa
