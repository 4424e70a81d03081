/-
  PLAIN GROUND, NO WALK: what the layers of objects share: a condition on each row of a state, how many numbers and which sum the rows have, the operations that may be. No condition.
-/
import Derived.Test.YtnpejgendmgfaaaStB
import Derived.Test.YtnpejgendmgfaaaOpMay
namespace Go.Proofs.Ytnpejgendmgfaaa
open Go.RowKit

/-- Is it so of each row? -/
def St.all (p : List Int → Bool) (s : St) : Bool := p s.r0 && p s.r1 && p s.r2 && p s.r3

theorem St.all_of {p : List Int → Bool} {s : St} (h : ∀ j, j < 4 → p (s.at j) = true) : s.all p = true := by
  have h0 := h 0 (by omega)
  have h1 := h 1 (by omega)
  have h2 := h 2 (by omega)
  have h3 := h 3 (by omega)
  simp only [St.at] at h0 h1 h2 h3
  simp [St.all, h0, h1, h2, h3]

theorem St.all_not {p : List Int → Bool} {s : St} {k : Nat} (hk : k < 4) (h : p (s.at k) = false) : s.all p = false := by
  rcases four hk with rfl | rfl | rfl | rfl <;> simp only [St.at] at h <;> simp [St.all, h]

theorem St.all_at {p : List Int → Bool} {s : St} (h : s.all p = true) {k : Nat} (hk : k < 4) : p (s.at k) = true := by
  simp [St.all] at h
  rcases four hk with rfl | rfl | rfl | rfl <;> simp [St.at, h]

theorem St.all_put {p : List Int → Bool} {s : St} (h : s.all p = true) {k : Nat} (hk : k < 4) {x : List Int} (hx : p x = true) : (s.put k x).all p = true :=
  St.all_of fun j hj => by rw [St.at_put hk hj]; split; exact hx; exact St.all_at h hj

/-- A row of a state's value, read at an index. -/
theorem run_row (vs : Nat → Sl) (k : Nat) (hk : k < 4) (w : World) : (Instr.index 23 (.agg (cells4 vs)) (.int .i64 k)).run Try.prog w = .ok (slV (vs k)) w := by
  rcases four hk with rfl | rfl | rfl | rfl <;> simp [Instr.index, go_sem]

/-- The sum of the numbers of the rows below k. -/
def sumTo (s : St) : Nat → Int
  | 0 => 0
  | k + 1 => sumTo s k + (s.at k).sum

/-- How many numbers the rows below k have. -/
def manyTo (s : St) : Nat → Int
  | 0 => 0
  | k + 1 => manyTo s k + (s.at k).length

theorem Le.set4 {w w1 : World} {g : Nat} (h : Le w w1) (hg : w.heap.size ≤ g) (x0 x1 x2 x3 : Value) :
    Le w ((((w1.setCell ⟨g, 0, none⟩ x0).setCell ⟨g, 1, none⟩ x1).setCell ⟨g, 2, none⟩ x2).setCell ⟨g, 3, none⟩ x3) :=
  (((Below.setCell h hg _).setCell hg _).setCell hg _).setCell hg _

theorem Own.set4 {w : World} {base g : Nat} {v : Value} {xs : List Int} {cs : Array Value} {t : TypeId} (h : Own w base v xs) (hb : Box w g cs t) (ht : t ≠ 3) (x0 x1 x2 x3 : Value) :
    Own ((((w.setCell ⟨g, 0, none⟩ x0).setCell ⟨g, 1, none⟩ x1).setCell ⟨g, 2, none⟩ x2).setCell ⟨g, 3, none⟩ x3) base v xs :=
  (((h.setBox hb ht).setBox (hb.set _ _) ht).setBox ((hb.set _ _).set _ _) ht).setBox (((hb.set _ _).set _ _).set _ _) ht

theorem opMay_bounds {c r a : Int} (h : opMay c r a = true) : 0 ≤ c ∧ c ≤ 3 ∧ 0 ≤ r ∧ r ≤ 3 ∧ 0 ≤ a ∧ a ≤ 255 := by
  simp [opMay] at h; omega

/-- The operations that may be. -/
theorem opMay_cases {c r a : Int} (h : opMay c r a = true) :
    (∃ k : Nat, k < 4 ∧ c = 0 ∧ r = k ∧ 0 ≤ a ∧ a ≤ 255) ∨ (∃ k : Nat, k < 4 ∧ c = 1 ∧ r = k ∧ 0 ≤ a ∧ a ≤ 255) ∨ (∃ k : Nat, k < 4 ∧ c = 2 ∧ r = k ∧ a = 0) ∨ (c = 3 ∧ r = 0 ∧ a = 0) := by
  obtain ⟨h0, h1, h2, h3, h4, h5⟩ := opMay_bounds h
  simp [opMay] at h
  rcases (by omega : c = 0 ∨ c = 1 ∨ c = 2 ∨ c = 3) with e | e | e | e
  · exact .inl ⟨r.toNat, by omega, e, by omega, h4, h5⟩
  · exact .inr (.inl ⟨r.toNat, by omega, e, by omega, h4, h5⟩)
  · exact .inr (.inr (.inl ⟨r.toNat, by omega, e, by omega, by omega⟩))
  · exact .inr (.inr (.inr ⟨e, by omega, by omega⟩))

theorem Fit.put {s : St} (h : Fit s) {k : Nat} (hk : k < 4) {x : List Int} (hx : x.length ≤ 4) : Fit (s.put k x) := by
  intro i hi
  rw [St.at_put hk hi]
  have := h i hi
  split <;> omega

theorem hid {p : Prop} (h : p) : Hid p := h

theorem drop_at {xs : List Int} {k : Nat} (hk : k < xs.length) : xs.drop k = xs.getD k 0 :: xs.drop (k + 1) := by
  rw [List.drop_eq_getElem_cons hk]
  simp [List.getD, hk]

theorem getD_drop (xs : List Int) (i j : Nat) : (xs.drop i).getD j 0 = xs.getD (i + j) 0 := by
  simp [List.getD, List.getElem?_drop]

/-- Is it a number of a row? -/
def argB (x : Int) : Bool := decide (0 ≤ x) && decide (x ≤ 255)

theorem all_take {p : Int → Bool} {xs : List Int} {k : Nat} (h : k < xs.length) : (xs.take (k + 1)).all p = ((xs.take k).all p && p (xs.getD k 0)) := by
  rw [List.take_succ_eq_append_getElem h, List.all_append]
  simp [List.getD, h]

theorem all_bad {p : Int → Bool} {xs : List Int} {k : Nat} (h : k < xs.length) (hb : p (xs.getD k 0) = false) : xs.all p = false := by
  rw [List.all_eq_false]
  exact ⟨xs[k], List.getElem_mem h, by simpa [List.getD, h] using hb⟩

end Go.Proofs.Ytnpejgendmgfaaa
