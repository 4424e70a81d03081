/-
  PLAIN GROUND: a statement that leaves its order open, whose own operations only read and whose callees may make memory of their own but answer the same in every later world: one walk in the text's order serves every order. It is the library's theorem over a class of worlds, taken at the class of all later worlds. No condition but that the callees' answers hold no new address.
-/
import Derived.Test.YtpdahcojedganaaGround
import Derived.Deep.QuietTactic
import Derived.BigQuiet
namespace Go.Proofs.Ytpdahcojedganaa
open Go.RowKit

/-- A world that has all that w0 had. -/
structure Later (w0 : World) where
  w : World
  le : Le w0 w

instance (w0 : World) : Nonempty (Later w0) := ⟨⟨w0, Le.refl w0⟩⟩

theorem wp_region_later {P : Program} {id : Nat} {Q : Exit → Act → World → Prop} {a : Act} {w : World} {l : List Oper} (hm : P.follows .mixedOrders = true) (hB : Region.lexB .any l.toArray = true)
    (h : wpQuiet P l.toArray (fun w' => ∃ x : Later w, w' = x.w) (fun a' => ∀ w', (∃ x : Later w, w' = x.w) → Q .normal a' w') l a) : (Code.region id l.toArray true).wp P Q a w :=
  wp_region_quiet (C := fun w' => ∃ x : Later w, w' = x.w) hm hB ⟨⟨_, Le.drew w⟩, rfl⟩ (by simpa using h)

/-- A callee's contract, met in a later world. -/
theorem Calls.later {P : Program} {f : FuncId} {args : Array Value} {w0 : World} {x : Later w0} {v : Value}
    (h : Calls P f args x.w fun e w' => e = .returned v ∧ Le x.w w') : Calls P f args x.w fun e w'' => e = .returned v ∧ ∃ y : Later w0, w'' = y.w :=
  h.mono fun _ w' ⟨he, hl⟩ => ⟨he, ⟨w', x.le.trans hl⟩, rfl⟩

theorem Calls.later_same {P : Program} {f : FuncId} {args : Array Value} {w0 : World} {x : Later w0} {v : Value}
    (h : Calls P f args x.w fun e w' => e = .returned v ∧ x.w = w') : Calls P f args x.w fun e w'' => e = .returned v ∧ ∃ y : Later w0, w'' = y.w :=
  h.mono fun _ w' ⟨he, hl⟩ => ⟨he, ⟨w', by rw [← hl]; exact x.le⟩, rfl⟩

/-- .. what the contract says of the answer, given. -/
theorem Calls.later_is {P : Program} {f : FuncId} {args : Array Value} {w0 : World} {x : Later w0} {v u : Value} (hv : v = u)
    (h : Calls P f args x.w fun e w' => e = .returned v ∧ Le x.w w') : Calls P f args x.w fun e w'' => e = .returned u ∧ ∃ y : Later w0, w'' = y.w := by
  subst hv; exact Calls.later h

theorem Box.later {w : World} {g : Nat} {cs : Array Value} {t : TypeId} (h : Box w g cs t) (i : Nat) : ∀ x : Later w, x.w.cell? ⟨g, i, none⟩ = cs[i]? := fun x => (h.le x.le).cell i

theorem Box.later3 {w : World} {g : Nat} {x y z : Value} {t : TypeId} (h : Box w g #[x, y, z] t) :
    (∀ X : Later w, X.w.cell? ⟨g, 0, none⟩ = some x) ∧ (∀ X : Later w, X.w.cell? ⟨g, 1, none⟩ = some y) ∧ (∀ X : Later w, X.w.cell? ⟨g, 2, none⟩ = some z) :=
  ⟨h.later 0, h.later 1, h.later 2⟩

theorem Box.laterR {w : World} {g : Nat} {x y z u : Value} {t : TypeId} (h : Box w g #[x, y, z, u] t) :
    (∀ X : Later w, X.w.cell? ⟨g, 0, none⟩ = some x) ∧ (∀ X : Later w, X.w.cell? ⟨g, 1, none⟩ = some y) ∧ (∀ X : Later w, X.w.cell? ⟨g, 2, none⟩ = some z) ∧ (∀ X : Later w, X.w.cell? ⟨g, 3, none⟩ = some u) :=
  ⟨h.later 0, h.later 1, h.later 2, h.later 3⟩
theorem Box.laterS {w : World} {g : Nat} {x y z u v : Value} {t : TypeId} (h : Box w g #[x, y, z, u, v] t) :
    (∀ X : Later w, X.w.cell? ⟨g, 0, none⟩ = some x) ∧ (∀ X : Later w, X.w.cell? ⟨g, 1, none⟩ = some y) ∧ (∀ X : Later w, X.w.cell? ⟨g, 2, none⟩ = some z) ∧ (∀ X : Later w, X.w.cell? ⟨g, 3, none⟩ = some u) ∧ (∀ X : Later w, X.w.cell? ⟨g, 4, none⟩ = some v) :=
  ⟨h.later 0, h.later 1, h.later 2, h.later 3, h.later 4⟩

end Go.Proofs.Ytpdahcojedganaa
