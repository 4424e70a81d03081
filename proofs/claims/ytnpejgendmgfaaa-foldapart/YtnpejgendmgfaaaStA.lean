/-
  PLAIN GROUND, NO WALK: a state of four rows of numbers, when a value holds it in a world, and what a later world keeps of it. No condition.
-/
import Derived.Test.YtnpejgendmgfaaaSlc
namespace Go.Proofs.Ytnpejgendmgfaaa
open Go.RowKit

/-- A state: four rows of numbers. -/
structure St where
  r0 : List Int
  r1 : List Int
  r2 : List Int
  r3 : List Int
deriving DecidableEq

/-- Row i. -/
def St.at (s : St) : Nat → List Int
  | 0 => s.r0
  | 1 => s.r1
  | 2 => s.r2
  | _ => s.r3

/-- Another row i. -/
def St.put (s : St) (i : Nat) (x : List Int) : St :=
  match i with
  | 0 => { s with r0 := x }
  | 1 => { s with r1 := x }
  | 2 => { s with r2 := x }
  | _ => { s with r3 := x }

def St.zero : St := ⟨[], [], [], []⟩

theorem St.ext_at {s t : St} (h : ∀ i, i < 4 → s.at i = t.at i) : s = t := by
  obtain ⟨a, b, c, d⟩ := s
  obtain ⟨a', b', c', d'⟩ := t
  have h0 := h 0 (by omega)
  have h1 := h 1 (by omega)
  have h2 := h 2 (by omega)
  have h3 := h 3 (by omega)
  simp only [St.at] at h0 h1 h2 h3
  subst h0 h1 h2 h3
  rfl

theorem four {i : Nat} (h : i < 4) : i = 0 ∨ i = 1 ∨ i = 2 ∨ i = 3 := by omega

theorem St.at_put {s : St} {i j : Nat} {x : List Int} (hi : i < 4) (hj : j < 4) : (s.put i x).at j = if j = i then x else s.at j := by
  rcases four hi with rfl | rfl | rfl | rfl <;> rcases four hj with rfl | rfl | rfl | rfl <;> simp [St.put, St.at]

theorem St.at_zero (i : Nat) : St.zero.at i = [] := by
  unfold St.at St.zero; split <;> rfl

/-- A slice's parts: where it lies, its length, its room. -/
abbrev Sl := Option Addr × Nat × Nat
/-- .. as a value. -/
abbrev slV (q : Sl) : Value := .slice q.1 q.2.1 q.2.2
/-- No slice. -/
abbrev slZ : Sl := (none, 0, 0)

theorem Has.sl {w : World} {v : Value} {xs : List Int} (h : Has w v xs) : ∃ q : Sl, v = slV q := by
  obtain ⟨a, cap, hv, _⟩ := h; exact ⟨(a, _, cap), hv⟩

/-- Four cells. -/
abbrev cells4 (vs : Nat → Sl) : Array Value := #[slV (vs 0), slV (vs 1), slV (vs 2), slV (vs 3)]

theorem cells4_at (vs : Nat → Sl) {i : Nat} (h : i < 4) : (cells4 vs)[i]? = some (slV (vs i)) := by
  rcases four h with rfl | rfl | rfl | rfl <;> rfl

/-- Another one of four. -/
def upd (vs : Nat → Sl) (i : Nat) (v : Sl) : Nat → Sl := fun j => if j = i then v else vs j

theorem cells4_upd (vs : Nat → Sl) {i : Nat} (h : i < 4) (v : Sl) : (cells4 vs).set! i (slV v) = cells4 (upd vs i v) := by
  rcases four h with rfl | rfl | rfl | rfl <;> simp [upd, cells4]

abbrev stV (vs : Nat → Sl) : Value := .agg (cells4 vs)

/-- The value v holds the state s in the world w. -/
def HasS (w : World) (v : Value) (s : St) : Prop := ∃ vs, v = stV vs ∧ ∀ i, i < 4 → Has w (slV (vs i)) (s.at i)
/-- .. in the call's own memory. -/
def OwnS (w : World) (base : Nat) (v : Value) (s : St) : Prop := ∃ vs, v = stV vs ∧ ∀ i, i < 4 → Own w base (slV (vs i)) (s.at i)
/-- Rows of whatever numbers, that may be written over. -/
def IntsS (w : World) (base : Nat) (v : Value) : Prop := ∃ vs, v = stV vs ∧ ∀ i, i < 4 → Ints w base (slV (vs i))
/-- Its rows can be copied. -/
def Fit (s : St) : Prop := ∀ i, i < 4 → (s.at i).length * 8 ≤ 140737488351232

theorem HasS.le {w w' : World} {v : Value} {s : St} (h : HasS w v s) (hl : Le w w') : HasS w' v s := by
  obtain ⟨vs, hv, hr⟩ := h; exact ⟨vs, hv, fun i hi => (hr i hi).le hl⟩
theorem OwnS.le {w w' : World} {base : Nat} {v : Value} {s : St} (h : OwnS w base v s) (hl : Le w w') : OwnS w' base v s := by
  obtain ⟨vs, hv, hr⟩ := h; exact ⟨vs, hv, fun i hi => (hr i hi).le hl⟩
theorem OwnS.base {w : World} {base base' : Nat} {v : Value} {s : St} (h : OwnS w base v s) (hb : base' ≤ base) : OwnS w base' v s := by
  obtain ⟨vs, hv, hr⟩ := h; exact ⟨vs, hv, fun i hi => (hr i hi).base hb⟩
theorem OwnS.has {w : World} {base : Nat} {v : Value} {s : St} (h : OwnS w base v s) : HasS w v s := by
  obtain ⟨vs, hv, hr⟩ := h; exact ⟨vs, hv, fun i hi => (hr i hi).has⟩
theorem OwnS.ints {w : World} {base : Nat} {v : Value} {s : St} (h : OwnS w base v s) : IntsS w base v := by
  obtain ⟨vs, hv, hr⟩ := h; exact ⟨vs, hv, fun i hi => (hr i hi).ints⟩
theorem IntsS.spoilt {w w' : World} {base base' : Nat} {v : Value} (h : IntsS w base v) (k : Spoilt base' w w') : IntsS w' base v := by
  obtain ⟨vs, hv, hr⟩ := h; exact ⟨vs, hv, fun i hi => (hr i hi).spoilt k⟩

/-- The value of a state without a number. -/
abbrev stZ : Value := .agg #[.slice none 0 0, .slice none 0 0, .slice none 0 0, .slice none 0 0]
theorem OwnS.zero (w : World) (base : Nat) : OwnS w base stZ St.zero := ⟨fun _ => slZ, rfl, fun i _ => by rw [St.at_zero]; exact Own.nil _ _⟩
theorem HasS.zero (w : World) : HasS w stZ St.zero := (OwnS.zero w 0).has
theorem fit_zero : Fit St.zero := fun i _ => by rw [St.at_zero]; decide

/-- A box after a store into one of its cells. -/
theorem Box.set {w : World} {g : Nat} {cs : Array Value} {t : TypeId} (h : Box w g cs t) (i : Nat) (v : Value) : Box (w.setCell ⟨g, i, none⟩ v) g (cs.set! i v) t := by
  unfold Box at h ⊢
  simp only [World.setCell, Array.getElem?_modify, h]
  simp
theorem Box.other {w : World} {g g' : Nat} {cs : Array Value} {t : TypeId} (h : Box w g cs t) (hne : g ≠ g') (i : Nat) (v : Value) : Box (w.setCell ⟨g', i, none⟩ v) g cs t := by
  unfold Box at h ⊢
  rw [Below.heap_setCell _ _ _ _ hne]
  exact h
/-- A box is no row of numbers. -/
theorem Own.apart {w : World} {base g : Nat} {v : Value} {xs : List Int} {cs : Array Value} {t : TypeId} (h : Own w base v xs) (hb : Box w g cs t) (ht : t ≠ 3) : v.ownBlock ≠ some g := by
  intro e
  rcases h.2 with ⟨h2, _⟩ | ⟨g', cap, cur, hv, hg, hh, _⟩
  · rw [h2] at e; simp [Value.ownBlock] at e
  · rw [hv] at e
    simp [Value.ownBlock] at e
    subst e
    unfold Box at hb
    rw [hb] at hh
    simp at hh
    exact ht hh.2
theorem Own.setBox {w : World} {base g i : Nat} {v u : Value} {xs : List Int} {cs : Array Value} {t : TypeId} (h : Own w base v xs) (hb : Box w g cs t) (ht : t ≠ 3) : Own (w.setCell ⟨g, i, none⟩ u) base v xs :=
  ownsRow_setCell_other h (h.apart hb ht) u
theorem Box.grown {w w' : World} {g : Nat} {cs : Array Value} {t : TypeId} {row : Option Nat} (h : Box w g cs t) (hg : w.grownBy w' row) (hne : row ≠ some g) : Box w' g cs t := by
  unfold Box at h ⊢
  rw [hg.block g (block_lt h) (fun e => hne e.symm)]
  exact h

theorem Own.block {w : World} {base g : Nat} {v : Value} {xs : List Int} (h : Own w base v xs) (e : v.ownBlock = some g) : base ≤ g ∧ g < w.heap.size := by
  rcases h.2 with ⟨h2, _⟩ | ⟨g', cap, cur, hv, hg, hh, _⟩
  · rw [h2] at e; simp [Value.ownBlock] at e
  · rw [hv] at e
    simp [Value.ownBlock] at e
    subst e
    exact ⟨hg, block_lt hh⟩

/-- A row of the call's own that lies elsewhere than what has grown. -/
theorem Own.grown {w w' : World} {base : Nat} {v : Value} {xs : List Int} {row : Option Nat} (h : Own w base v xs) (hg : w.grownBy w' row) (hne : ∀ g, v.ownBlock = some g → row ≠ some g) : Own w' base v xs := by
  obtain ⟨h1, h2⟩ := h
  refine ⟨h1, ?_⟩
  rcases h2 with h2 | ⟨g, cap, cur, hv, hb, hh, r⟩
  · exact .inl h2
  · exact .inr ⟨g, cap, cur, hv, hb, by rw [hg.block g (block_lt hh) (fun e => hne g (by rw [hv]; rfl) e.symm)]; exact hh, r⟩

/-- The rows below k lie in blocks of their own, each in another. -/
def Apart (vs : Nat → Sl) (k : Nat) : Prop := ∀ i j, i < k → j < k → i ≠ j → ∀ g, (slV (vs i)).ownBlock = some g → (slV (vs j)).ownBlock ≠ some g

theorem Apart.next {vs : Nat → Sl} {k m : Nat} {q : Sl} (h : Apart vs k) (hlt : ∀ j, j < k → ∀ g, (slV (vs j)).ownBlock = some g → g < m) (hge : ∀ g, (slV q).ownBlock = some g → m ≤ g) : Apart (upd vs k q) (k + 1) := by
  intro i j hi hj hne g e1 e2
  by_cases ei : i = k
  · have ej : j ≠ k := by omega
    rw [show upd vs k q i = q by simp [upd, ei]] at e1
    rw [show upd vs k q j = vs j by simp [upd, ej]] at e2
    have := hge g e1
    have := hlt j (by omega) g e2
    omega
  · rw [show upd vs k q i = vs i by simp [upd, ei]] at e1
    by_cases ej : j = k
    · rw [show upd vs k q j = q by simp [upd, ej]] at e2
      have := hge g e2
      have := hlt i (by omega) g e1
      omega
    · rw [show upd vs k q j = vs j by simp [upd, ej]] at e2
      exact h i j (by omega) (by omega) hne g e1 e2

end Go.Proofs.Ytnpejgendmgfaaa
