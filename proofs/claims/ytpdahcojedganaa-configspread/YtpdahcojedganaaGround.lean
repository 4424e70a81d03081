/-
  PLAIN GROUND, NO WALK: what a later world keeps of an elder one. No condition.
-/
import Derived.Test.YtpdahcojedganaaBase
import Derived.WalkSpells
import Derived.WalkLawsBesides
namespace Go.Proofs.Ytpdahcojedganaa
open Go.RowKit

theorem ret_bool {a b : Bool} (h : a = b) : Ending.returned (.bool a) = .returned (.bool b) := by rw [h]

/-- The later world w' has all that w had. -/
def Le (w w' : World) : Prop := Below w.heap.size w w'
theorem Le.refl (w : World) : Le w w := Below.refl _ _
theorem Le.trans {a b c : World} (h : Le a b) (k : Le b c) : Le a c := Below.trans h (Below.mono k h.size)
theorem Le.alloc (w : World) (o : Obj) : Le w (w.alloc o) := (Below.refl _ _).alloc (Nat.le_refl _) _
theorem Le.drew (w : World) : Le w w.drew := (Below.refl _ _).drew
theorem Le.drewN (w : World) (n : Nat) : Le w (w.drewN n) := below_drewN (Below.refl _ _) n
theorem Has.le {w w' : World} {v : Value} {xs : List Int} (h : Has w v xs) (hl : Le w w') : Has w' v xs := h.later hl
theorem Own.le {w w' : World} {base : Nat} {v : Value} {xs : List Int} (h : Own w base v xs) (hl : Le w w') : Own w' base v xs := h.later hl

/-- Block g of the world w is a row of the cells cs. -/
def Box (w : World) (g : Nat) (cs : Array Value) (t : TypeId) : Prop := w.heap[g]? = some (.cells cs t (0, 0))

theorem Box.lt {w : World} {g : Nat} {cs : Array Value} {t : TypeId} (h : Box w g cs t) : g < w.heap.size := block_lt h
theorem Box.le {w w' : World} {g : Nat} {cs : Array Value} {t : TypeId} (h : Box w g cs t) (hl : Le w w') : Box w' g cs t := by
  have := hl.block g h.lt
  unfold Box
  rw [this]
  exact h
theorem Box.new (w : World) (cs : Array Value) (t : TypeId) : Box (w.alloc (.cells cs t)) w.heap.size cs t := heap_alloc_new w _
theorem Box.cell {w : World} {g : Nat} {cs : Array Value} {t : TypeId} (h : Box w g cs t) (i : Nat) : w.cell? ⟨g, i, none⟩ = cs[i]? := cell_of_row w g i cs t (0, 0) h
theorem Box.frozen {w : World} {g : Nat} {cs : Array Value} {t : TypeId} (h : Box w g cs t) (i : Nat) : w.frozen? ⟨g, i, none⟩ = false := by
  unfold World.frozen?
  rw [show w.heap[(⟨g, i, none⟩ : Addr).block]? = some (.cells cs t (0, 0)) from h]
  simp
theorem Box.op {w : World} {g : Nat} {x y z : Value} {t : TypeId} (h : Box w g #[x, y, z] t) :
    w.cell? ⟨g, 0, none⟩ = some x ∧ w.cell? ⟨g, 1, none⟩ = some y ∧ w.cell? ⟨g, 2, none⟩ = some z ∧
    w.frozen? ⟨g, 0, none⟩ = false ∧ w.frozen? ⟨g, 1, none⟩ = false ∧ w.frozen? ⟨g, 2, none⟩ = false :=
  ⟨h.cell 0, h.cell 1, h.cell 2, h.frozen 0, h.frozen 1, h.frozen 2⟩

end Go.Proofs.Ytpdahcojedganaa
