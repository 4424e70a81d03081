/-
  THE WALK over package ring's Entry: what it answers, for every ring and number. Condition: that the slots can be copied.
-/
import Derived.Test.YtgjhbhnfeeleeaaRgC
import Derived.Deep.Cut
import Derived.Deep.RegionHeld3
namespace Go.Proofs.Ytgjhbhnfeeleeaa
open Go.RowKit

/-- Where entry number p stands. -/
def seat (R : Rg) (p : Int) : Nat := (p % R.ss.length).toNat
def entryB (R : Rg) (p : Int) : Bool := hasB R.h R.t p && decide ((R.ss.getD (seat R p) Slt.zero).b = bitAt p R.ss.length)
def entryS (R : Rg) (p : Int) : Slt × Int :=
  if mayR R then (if entryB R p then (R.ss.getD (seat R p) Slt.zero, 0) else (Slt.zero, 1002)) else (Slt.zero, 1000)

theorem seat_lt {R : Rg} {p : Int} (h : mayR R = true) : seat R p < R.ss.length := by
  have := mayR_len h
  have h1 := Int.emod_nonneg p (b := (R.ss.length : Int)) (by omega)
  have h2 := Int.emod_lt_of_pos p (b := (R.ss.length : Int)) (by omega)
  unfold seat
  omega
theorem seat_eq {R : Rg} {p : Int} (h : mayR R = true) (hp : 0 ≤ p) : Int.tmod p R.ss.length = seat R p := by
  have := mayR_len h
  have h1 := Int.emod_nonneg p (b := (R.ss.length : Int)) (by omega)
  rw [Int.tmod_eq_emod_of_nonneg hp]
  unfold seat
  omega

abbrev slotZ : Value := slotV 0 0 0 0 0
theorem Le.put5 {w w' : World} {g : Nat} {a b c d e : Value} (h : Le w w') (hg : w.heap.size ≤ g) :
    Le w (((((w'.setCell ⟨g, 0, none⟩ a).setCell ⟨g, 1, none⟩ b).setCell ⟨g, 2, none⟩ c).setCell ⟨g, 3, none⟩ d).setCell ⟨g, 4, none⟩ e) :=
  ((((h.set hg).set hg).set hg).set hg).set hg
theorem Box.slotF {w : World} {g : Nat} {x y z u v : Value} {t : TypeId} (h : Box w g #[x, y, z, u, v] t) :
    w.frozen? ⟨g, 0, none⟩ = false ∧ w.frozen? ⟨g, 1, none⟩ = false ∧ w.frozen? ⟨g, 2, none⟩ = false ∧ w.frozen? ⟨g, 3, none⟩ = false ∧ w.frozen? ⟨g, 4, none⟩ = false :=
  ⟨h.frozen 0, h.frozen 1, h.frozen 2, h.frozen 3, h.frozen 4⟩

end Go.Proofs.Ytgjhbhnfeeleeaa
