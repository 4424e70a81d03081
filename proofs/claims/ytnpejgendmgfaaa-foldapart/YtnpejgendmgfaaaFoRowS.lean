/-
  PLAIN GROUND, NO WALK: answers of one row hang on that row's operations alone. No condition.
-/
import Derived.Test.YtnpejgendmgfaaaFoS
namespace Go.Proofs.Ytnpejgendmgfaaa
open Go.RowKit

/-- Is it of row r, and no scan? -/
def isOwn (r : Int) (p : Opr) : Bool := p.r == r && p.c != 3
def ownOf (r : Int) (ps : List Opr) : List Opr := ps.filter (isOwn r)
/-- Their answers, out of all. -/
def wantOf (r : Int) : List Opr → List Int → List Int
  | p :: ps, x :: xs => if isOwn r p then x :: wantOf r ps xs else wantOf r ps xs
  | _, _ => []

theorem wantOf_append (r : Int) : ∀ (ps : List Opr) (xs : List Int) (p : Opr) (x : Int), ps.length = xs.length → wantOf r (ps ++ [p]) (xs ++ [x]) = wantOf r ps xs ++ (if isOwn r p then [x] else [])
  | [], [], p, x, _ => by simp [wantOf]
  | [], _ :: _, _, _, h => by simp at h
  | _ :: _, [], _, _, h => by simp at h
  | q :: ps, y :: xs, p, x, h => by
    have ih := wantOf_append r ps xs p x (by simpa using h)
    simp only [List.cons_append, wantOf, ih]
    split <;> simp
theorem ownOf_append (r : Int) (ps : List Opr) (p : Opr) : ownOf r (ps ++ [p]) = ownOf r ps ++ (if isOwn r p then [p] else []) := by
  simp only [ownOf, List.filter_append, List.filter_cons, List.filter_nil]
theorem ownOf_take {r : Int} {ps : List Opr} {k : Nat} (h : k < ps.length) : ownOf r (ps.take (k + 1)) = ownOf r (ps.take k) ++ (if isOwn r (ps.getD k Opr.zero) then [ps.getD k Opr.zero] else []) := by
  rw [take_op h, ownOf_append]
theorem take_int {xs : List Int} {k : Nat} (h : k < xs.length) : xs.take (k + 1) = xs.take k ++ [xs.getD k 0] := by
  rw [List.take_succ_eq_append_getElem h]; simp [List.getD, h]
theorem wantOf_take {r : Int} {ps : List Opr} {xs : List Int} {k : Nat} (h : k < ps.length) (hl : xs.length = ps.length) :
    wantOf r (ps.take (k + 1)) (xs.take (k + 1)) = wantOf r (ps.take k) (xs.take k) ++ (if isOwn r (ps.getD k Opr.zero) then [xs.getD k 0] else []) := by
  rw [take_op h, take_int (by omega), wantOf_append _ _ _ _ _ (by simp; omega)]
theorem ownOf_len (r : Int) (ps : List Opr) : (ownOf r ps).length ≤ ps.length := List.length_filter_le _ _
theorem wantOf_len (r : Int) : ∀ (ps : List Opr) (xs : List Int), (wantOf r ps xs).length ≤ ps.length
  | [], _ => by simp [wantOf]
  | _ :: _, [] => by simp [wantOf]
  | p :: ps, x :: xs => by
    have ih := wantOf_len r ps xs
    simp only [wantOf]
    split <;> simp <;> omega
theorem ownOf_may {r : Int} {ps : List Opr} (h : opsMay ps = true) : opsMay (ownOf r ps) = true := by
  simp only [opsMay, ownOf, List.all_eq_true, List.mem_filter] at h ⊢
  exact fun p hp => h p hp.1

/-- What an operation leaves in row k. -/
theorem stepS_at {o : Int} {s : St} {p : Opr} {k : Nat} (hk : k < 4) (hm : objMay o s = true) (hp : p.may = true) :
    (stepS o s p).at k = if isOwn k p then (rowF o p.c (s.at k) p.a).1 else s.at k := by
  obtain ⟨c, r, a⟩ := p
  replace hp : opMay c r a = true := hp
  by_cases hc : c = 3
  · subst hc
    obtain ⟨rfl, rfl⟩ : r = 0 ∧ a = 0 := by simp [opMay] at hp; omega
    rw [if_neg (by simp [isOwn])]
    show (objS o s 3 0 0 0).1.at k = s.at k
    rw [objS_scan0 0 hm]
  · obtain ⟨_, _, r0, r3, _, _⟩ := opMay_bounds hp
    obtain ⟨j, rfl⟩ : ∃ j : Nat, r = j := ⟨r.toNat, by omega⟩
    show (objS o s c j a 0).1.at k = _
    rw [objS_row 0 hm hp hc, St.at_put (by omega) hk]
    by_cases e : k = j
    · subst e; rw [if_pos rfl, if_pos (by simp [isOwn, hc])]
    · rw [if_neg e, if_neg (by simp [isOwn]; omega)]
theorem stepA_own {o : Int} {s : St} {p : Opr} {k : Nat} (hm : objMay o s = true) (hp : p.may = true) (ho : isOwn k p = true) : stepA o s p = (rowF o p.c (s.at k) p.a).2 := by
  obtain ⟨c, r, a⟩ := p
  replace hp : opMay c r a = true := hp
  simp [isOwn] at ho
  obtain ⟨rfl, hc⟩ := ho
  show (objS o s c k a 0).2.1 = _
  rw [objS_row 0 hm hp hc]

theorem own_an {o : Int} {k : Nat} (hk : k < 4) : ∀ (ps : List Opr) (s t : St), objMay o s = true → objMay o t = true → s.at k = t.at k → opsMay ps = true → foldAn o t (ownOf k ps) = wantOf k ps (foldAn o s ps)
  | [], _, _, _, _, _, _ => rfl
  | p :: ps, s, t, hs, ht, he, hp => by
    simp only [opsMay, List.all_cons, Bool.and_eq_true] at hp
    have ih := own_an (o := o) hk ps (stepS o s p)
    cases ho : isOwn k p
    · rw [show ownOf k (p :: ps) = ownOf k ps by simp [ownOf, ho]]
      simp only [foldAn, wantOf, ho]
      exact ih t (stepS_may hs hp.1) ht (by rw [stepS_at hk hs hp.1, ho]; exact he) hp.2
    · rw [show ownOf k (p :: ps) = p :: ownOf k ps by simp [ownOf, ho]]
      simp only [foldAn, wantOf, ho, if_true]
      rw [stepA_own ht hp.1 ho, stepA_own hs hp.1 ho, he]
      rw [ih (stepS o t p) (stepS_may hs hp.1) (stepS_may ht hp.1) (by rw [stepS_at hk hs hp.1, stepS_at hk ht hp.1, ho, he]) hp.2]

/-- The two ways that FoldRow goes. -/
theorem row_cases (o : Int) (s : St) (ps : List Opr) (k : Nat) (hk : k < 4) : ∃ a1 xs e1 c1 f, foldS o s ps 1200 = (a1, xs, e1) ∧ foldS o s (ownOf k ps) 1200 = (c1, if e1 = 0 then wantOf k ps xs else (foldS o s (ownOf k ps) 1200).2.1, f) ∧
    Hid ((e1 = 1200 ∧ xs = []) ∨ (e1 = 0 ∧ f = 0 ∧ xs.length = ps.length)) := by
  cases h : foldMay o s ps
  · exact ⟨_, _, _, _, _, foldS_no 1200 h, rfl, .inl ⟨rfl, rfl⟩⟩
  · have hm : objMay o s = true := (Bool.and_eq_true_iff.mp h).1
    have hp : opsMay ps = true := (Bool.and_eq_true_iff.mp h).2
    have h2 : foldMay o s (ownOf k ps) = true := by rw [foldMay, hm, ownOf_may hp]; rfl
    refine ⟨_, _, _, foldSt o s (ownOf k ps), 0, foldS_yes 1200 h, ?_, .inr ⟨rfl, rfl, foldAn_len _ _ _⟩⟩
    rw [foldS_yes 1200 h2, if_pos rfl, own_an hk ps s s hm hm rfl hp]

end Go.Proofs.Ytnpejgendmgfaaa
