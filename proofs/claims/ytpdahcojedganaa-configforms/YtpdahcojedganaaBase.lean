/-
  PLAIN GROUND, NO WALK: when a slice value holds a list of numbers in a world ('Has'), when it is the call's own ('Own'), and what a later world keeps of both; the document's cells as functions on lists. No condition.
-/
import Derived.Test.YtpdahcojedganaaRows
import Derived.WalkKit
namespace Go.Proofs.Ytpdahcojedganaa
open Go.RowKit

/-- The slice value v holds the numbers xs in the world w. -/
def Has (w : World) (v : Value) (xs : List Int) : Prop :=
  ∃ (a : Option Addr) (cap : Nat), v = .slice a xs.length cap ∧ xs.length ≤ cap ∧ (a = none → cap = 0) ∧
    (0 < xs.length → ∃ b off, a = some ⟨b, off, none⟩ ∧ ∀ i, i < xs.length → w.cell? ⟨b, off + i, none⟩ = some (.int .i64 (xs.getD i 0)))

/-- The slice value v is the call's own (its block is 'base' or later) and holds the numbers xs. -/
def Own (w : World) (base : Nat) (v : Value) (xs : List Int) : Prop :=
  w.ownsRow base 3 1 v xs.length (xs.map (Value.int .i64))

theorem block_lt {w : World} {g : Nat} {o : Obj} (h : w.heap[g]? = some o) : g < w.heap.size := by
  rcases Nat.lt_or_ge g w.heap.size with h' | h'
  · exact h'
  · rw [Array.getElem?_eq_none h'] at h; cases h

theorem Has.later {w w' : World} {v : Value} {xs : List Int} (h : Has w v xs) (hb : Below w.heap.size w w') : Has w' v xs := by
  obtain ⟨a, cap, hv, hc, hn, hx⟩ := h
  refine ⟨a, cap, hv, hc, hn, fun hp => ?_⟩
  obtain ⟨b, off, ha, hcell⟩ := hx hp
  refine ⟨b, off, ha, fun i hi => ?_⟩
  have h1 := hcell i hi
  have hlt : b < w.heap.size := World.block_lt_of_cell? w _ h1
  rw [hb.cell (p := ⟨b, off + i, none⟩) hlt]; exact h1

theorem Own.later {w w' : World} {base : Nat} {v : Value} {xs : List Int} (h : Own w base v xs) (hb : Below w.heap.size w w') : Own w' base v xs := by
  obtain ⟨h1, h2⟩ := h
  refine ⟨h1, ?_⟩
  rcases h2 with h2 | ⟨g, cap, cur, hv, hg, hh, r⟩
  · exact .inl h2
  · exact .inr ⟨g, cap, cur, hv, hg, by rw [hb.block g (block_lt hh)]; exact hh, r⟩

theorem Own.base {w : World} {base base' : Nat} {v : Value} {xs : List Int} (h : Own w base v xs) (hb : base' ≤ base) : Own w base' v xs := by
  obtain ⟨h1, h2⟩ := h
  refine ⟨h1, ?_⟩
  rcases h2 with h2 | ⟨g, cap, cur, hv, hg, r⟩
  · exact .inl h2
  · exact .inr ⟨g, cap, cur, hv, by omega, r⟩

theorem Own.has {w : World} {base : Nat} {v : Value} {xs : List Int} (h : Own w base v xs) : Has w v xs := by
  have h' := h
  obtain ⟨h1, h2⟩ := h
  rcases h2 with ⟨h2, h3⟩ | ⟨g, cap, cur, hv, hg, hh, hn, hm, hs, ht⟩
  · have : xs = [] := by cases xs with | nil => rfl | cons _ _ => simp at h3
    subst this
    exact ⟨none, 0, h2, Nat.le_refl _, fun _ => rfl, fun hp => by simp at hp⟩
  · refine ⟨some ⟨g, 0, none⟩, cap, hv, hn, (fun h => by cases h), fun _ => ⟨g, 0, rfl, fun i hi => ?_⟩⟩
    rw [hv] at h'
    have := World.ownsRow.cellAt h' i (by omega)
    rw [Nat.zero_add, this]
    simp [List.getElem?_map, List.getElem?_eq_getElem hi, List.getD]

theorem Has.nil (w : World) : Has w (.slice none 0 0) [] := ⟨none, 0, rfl, Nat.le_refl _, fun _ => rfl, fun h => by simp at h⟩

theorem Has.shape {w : World} {v : Value} {xs : List Int} (h : Has w v xs) : ∃ a cap, v = .slice a xs.length cap := by
  obtain ⟨a, cap, hv, _⟩ := h; exact ⟨a, cap, hv⟩

/-! The document's cells. -/
def holdB (x : Int) : Bool := decide (0 ≤ x) && decide (x ≤ 1048576)
def mayB (xs : List Int) : Bool := decide (xs.length ≤ 16) && xs.all holdB
def atB (xs : List Int) (at' : Int) : Bool := mayB xs && decide (0 ≤ at') && decide (at' < xs.length)
def loadS (xs : List Int) (p : Int) : Int × Int := if atB xs p then (xs.getD p.toNat 0, 0) else (0, 100)
def storeS (xs : List Int) (p x : Int) : List Int × Int := if atB xs p && holdB x then (xs.set p.toNat x, 0) else ([], 100)
def swapS (xs : List Int) (p old new : Int) : List Int × Bool × Int :=
  if atB xs p && holdB new then (if xs.getD p.toNat 0 = old then (xs.set p.toNat new, true, 0) else (xs, false, 0)) else ([], false, 100)
def addS (xs : List Int) (p d : Int) : List Int × Int × Int :=
  if atB xs p && holdB (xs.getD p.toNat 0 + d) then (xs.set p.toNat (xs.getD p.toNat 0 + d), xs.getD p.toNat 0, 0) else ([], 0, 100)

end Go.Proofs.Ytpdahcojedganaa
