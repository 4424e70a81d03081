/-
  PLAIN GROUND, NO WALK: operations of even rows and of odd rows, folded in whatever row that keeps each one's. No condition.
-/
import Derived.Test.YtnpejgendmgfaaaFoRowS
namespace Go.Proofs.Ytnpejgendmgfaaa
open Go.RowKit

def evenB (p : Opr) : Bool := p.r % 2 == 0
def evens (ps : List Opr) : List Opr := ps.filter evenB
def odds (ps : List Opr) : List Opr := ps.filter fun p => !evenB p

theorem evens_take {ps : List Opr} {k : Nat} (h : k < ps.length) : evens (ps.take (k + 1)) = evens (ps.take k) ++ (if evenB (ps.getD k Opr.zero) then [ps.getD k Opr.zero] else []) := by
  rw [take_op h]; simp only [evens, List.filter_append, List.filter_cons, List.filter_nil]
theorem odds_take {ps : List Opr} {k : Nat} (h : k < ps.length) : odds (ps.take (k + 1)) = odds (ps.take k) ++ (if !evenB (ps.getD k Opr.zero) then [ps.getD k Opr.zero] else []) := by
  rw [take_op h]; simp only [odds, List.filter_append, List.filter_cons, List.filter_nil]
theorem evens_len (ps : List Opr) : (evens ps).length ≤ ps.length := List.length_filter_le _ _
theorem odds_len (ps : List Opr) : (odds ps).length ≤ ps.length := List.length_filter_le _ _

theorem may_parts (ps : List Opr) : opsMay ps = (opsMay (evens ps) && opsMay (odds ps)) := by
  induction ps with
  | nil => rfl
  | cons p ps ih =>
    cases h : evenB p
    · rw [show evens (p :: ps) = evens ps by simp [evens, h], show odds (p :: ps) = p :: odds ps by simp [odds, h]]
      simp only [opsMay, List.all_cons] at ih ⊢
      rw [ih]; cases p.may <;> simp
    · rw [show evens (p :: ps) = p :: evens ps by simp [evens, h], show odds (p :: ps) = odds ps by simp [odds, h]]
      simp only [opsMay, List.all_cons] at ih ⊢
      rw [ih]; cases p.may <;> simp

/-- What a row's own operations make of it. -/
def rowFold (o : Int) : List Int → List Opr → List Int
  | xs, [] => xs
  | xs, p :: ps => rowFold o (rowF o p.c xs p.a).1 ps

theorem foldSt_at {o : Int} {k : Nat} (hk : k < 4) : ∀ (ps : List Opr) (s : St), objMay o s = true → opsMay ps = true → (foldSt o s ps).at k = rowFold o (s.at k) (ownOf k ps)
  | [], _, _, _ => rfl
  | p :: ps, s, hs, hp => by
    simp only [opsMay, List.all_cons, Bool.and_eq_true] at hp
    have ih := foldSt_at (o := o) hk ps (stepS o s p) (stepS_may hs hp.1) hp.2
    simp only [foldSt]
    rw [ih, stepS_at hk hs hp.1]
    cases ho : isOwn k p
    · rw [show ownOf k (p :: ps) = ownOf k ps by simp [ownOf, ho]]; simp
    · rw [show ownOf k (p :: ps) = p :: ownOf k ps by simp [ownOf, ho]]; simp [rowFold]

theorem own_even {k : Nat} (ps : List Opr) : ownOf k (evens ps) = if k % 2 = 0 then ownOf k ps else [] := by
  simp only [ownOf, evens, List.filter_filter]
  split
  · next h =>
    refine List.filter_congr fun p _ => ?_
    cases ho : isOwn k p
    · rfl
    · have : p.r = k := by simp [isOwn] at ho; exact ho.1
      have he : evenB p = true := by simp [evenB, this]; omega
      rw [he]; rfl
  · next h =>
    rw [List.filter_eq_nil_iff]
    intro p _
    cases ho : isOwn k p
    · simp
    · have : p.r = k := by simp [isOwn] at ho; exact ho.1
      have he : evenB p = false := by simp [evenB, this]; omega
      rw [he]; simp
theorem own_odd {k : Nat} (ps : List Opr) : ownOf k (odds ps) = if k % 2 = 0 then [] else ownOf k ps := by
  simp only [ownOf, odds, List.filter_filter]
  split
  · next h =>
    rw [List.filter_eq_nil_iff]
    intro p _
    cases ho : isOwn k p
    · simp
    · have : p.r = k := by simp [isOwn] at ho; exact ho.1
      have he : evenB p = true := by simp [evenB, this]; omega
      rw [he]; simp
  · next h =>
    refine List.filter_congr fun p _ => ?_
    cases ho : isOwn k p
    · rfl
    · have : p.r = k := by simp [isOwn] at ho; exact ho.1
      have he : evenB p = false := by simp [evenB, this]; omega
      rw [he]; rfl

theorem fold_apart {o : Int} {s : St} {ps : List Opr} (hm : objMay o s = true) (he : opsMay (evens ps) = true) (ho : opsMay (odds ps) = true) :
    foldSt o s ps = foldSt o (foldSt o s (evens ps)) (odds ps) ∧ foldSt o s ps = foldSt o (foldSt o s (odds ps)) (evens ps) := by
  have hp : opsMay ps = true := by rw [may_parts, he, ho]; rfl
  refine ⟨St.ext_at fun k hk => ?_, St.ext_at fun k hk => ?_⟩
  · rw [foldSt_at hk _ _ hm hp, foldSt_at hk _ _ (foldSt_may hm he) ho, foldSt_at hk _ _ hm he, own_even, own_odd]
    by_cases h : k % 2 = 0
    · rw [if_pos h, if_pos h]; rfl
    · rw [if_neg h, if_neg h]; rfl
  · rw [foldSt_at hk _ _ hm hp, foldSt_at hk _ _ (foldSt_may hm ho) he, foldSt_at hk _ _ hm ho, own_even, own_odd]
    by_cases h : k % 2 = 0
    · rw [if_pos h, if_pos h]; rfl
    · rw [if_neg h, if_neg h]; rfl

/-- The two ways that FoldApart goes. -/
theorem apart_cases (o : Int) (s : St) (ps : List Opr) : ∃ a1 xa e1 b1 xb e2 c1 xc e3 d1 xd e4 f1 xf e5, foldS o s ps 1200 = (a1, xa, e1) ∧ foldS o s (evens ps) 1200 = (b1, xb, e2) ∧ foldS o b1 (odds ps) 1200 = (c1, xc, e3) ∧
    foldS o s (odds ps) 1200 = (d1, xd, e4) ∧ foldS o d1 (evens ps) 1200 = (f1, xf, e5) ∧
    Hid ((e1 = 1200 ∧ (e2 = 1200 ∨ (e2 = 0 ∧ e3 = 1200))) ∨ (e1 = 0 ∧ e2 = 0 ∧ e3 = 0 ∧ e4 = 0 ∧ e5 = 0 ∧ a1 = c1 ∧ a1 = f1)) := by
  cases hm : objMay o s
  · exact ⟨_, _, _, _, _, _, _, _, _, _, _, _, _, _, _, foldS_no 1200 (by simp [foldMay, hm]), foldS_no 1200 (by simp [foldMay, hm]), rfl, rfl, rfl, .inl ⟨rfl, .inl rfl⟩⟩
  · cases he : opsMay (evens ps)
    · have hp : opsMay ps = false := by rw [may_parts, he]; rfl
      exact ⟨_, _, _, _, _, _, _, _, _, _, _, _, _, _, _, foldS_no 1200 (by simp [foldMay, hp]), foldS_no 1200 (by simp [foldMay, he]), rfl, rfl, rfl, .inl ⟨rfl, .inl rfl⟩⟩
    · cases ho : opsMay (odds ps)
      · have hp : opsMay ps = false := by rw [may_parts, he, ho]; rfl
        exact ⟨_, _, _, _, _, _, _, _, _, _, _, _, _, _, _, foldS_no 1200 (by simp [foldMay, hp]), foldS_yes 1200 (by simp [foldMay, hm, he]), foldS_no 1200 (by simp [foldMay, ho]), rfl, rfl, .inl ⟨rfl, .inr ⟨rfl, rfl⟩⟩⟩
      · have hp : opsMay ps = true := by rw [may_parts, he, ho]; rfl
        obtain ⟨h1, h2⟩ := fold_apart hm he ho
        exact ⟨_, _, _, _, _, _, _, _, _, _, _, _, _, _, _, foldS_yes 1200 (by simp [foldMay, hm, hp]), foldS_yes 1200 (by simp [foldMay, hm, he]), foldS_yes 1200 (by simp [foldMay, foldSt_may hm he, ho]), foldS_yes 1200 (by simp [foldMay, hm, ho]), foldS_yes 1200 (by simp [foldMay, foldSt_may hm ho, he]), .inr ⟨rfl, rfl, rfl, rfl, rfl, h1, h2⟩⟩

end Go.Proofs.Ytnpejgendmgfaaa
