/-
  PLAIN GROUND: package ring's contracts, their answers written out. Condition: that the slots can be copied.
-/
import Derived.Test.YtgjhbhnfeeleeaaRgC
import Derived.Test.YtgjhbhnfeeleeaaRgG
namespace Go.Proofs.Ytgjhbhnfeeleeaa
open Go.RowKit

theorem fitR_small {R : Rg} (h : R.ss.length ≤ 100) : FitR R := by unfold FitR; omega

theorem mayAs {h t f : Int} {ss : List Slt} {y : Bool} (he : mayR ⟨h, t, f, ss⟩ = y) (hf : ss.length * 40 ≤ 140737488351232) (q : Sl) (w : World) (hq : HasL w (slV q) ss) :
    Calls Try.prog 20 #[ringV h t f q] w fun e w' => e = .returned (.bool y) ∧ Le w w' := by
  have := ringMay (ringV h t f q) ⟨h, t, f, ss⟩ w ⟨q, rfl, hq⟩ hf
  rw [he] at this
  exact this

end Go.Proofs.Ytgjhbhnfeeleeaa
