/-
  PLAIN GROUND: the document's ring, its contracts with their answers written out; what is handed back can be copied. Condition: that the slots can be copied.
-/
import Derived.Test.YtgjhbhnfeeleeaaRfC
import Derived.Test.YtgjhbhnfeeleeaaRfC
import Derived.Test.YtgjhbhnfeeleeaaRgH
namespace Go.Proofs.Ytgjhbhnfeeleeaa
open Go.RowKit

theorem refNewAs {n h t f er : Int} {ss : List Slt} (he : newS n = (⟨h, t, f, ss⟩, er)) (w : World) :
    Calls Try.prog 15 #[.int .i64 n] w fun e w' => ∃ q : Sl, e = .returned (.tuple #[ringV h t f q, .int .i64 er]) ∧ OwnL w' w.heap.size (slV q) ss ∧ Le w w' := by
  have := refNewRing n w
  rw [he] at this
  exact this.mono fun e w' ⟨v', h1, ⟨q, h2, h3⟩, h4⟩ => ⟨q, by rw [h1, h2], h3, h4⟩
theorem refFreeAs {h t f p h' t' f' er : Int} {ss ss' : List Slt} (he : freeS ⟨h, t, f, ss⟩ p = (⟨h', t', f', ss'⟩, er)) (hf : ss.length * 40 ≤ 140737488351232) (q : Sl) (w : World) (hq : HasL w (slV q) ss) :
    Calls Try.prog 16 #[ringV h t f q, .int .i64 p] w fun e w' => ∃ q : Sl, e = .returned (.tuple #[ringV h' t' f' q, .int .i64 er]) ∧ OwnL w' w.heap.size (slV q) ss' ∧ Le w w' := by
  have := refFreeTo (ringV h t f q) ⟨h, t, f, ss⟩ p w ⟨q, rfl, hq⟩ hf
  rw [he] at this
  exact this.mono fun e w' ⟨v', h1, ⟨q, h2, h3⟩, h4⟩ => ⟨q, by rw [h1, h2], h3, h4⟩
theorem refMayAs {h t f : Int} {ss : List Slt} {y : Bool} (he : mayR ⟨h, t, f, ss⟩ = y) (hf : ss.length * 40 ≤ 140737488351232) (q : Sl) (w : World) (hq : HasL w (slV q) ss) :
    Calls Try.prog 22 #[ringV h t f q] w fun e w' => e = .returned (.bool y) ∧ Le w w' := by
  have := refRingMay (ringV h t f q) ⟨h, t, f, ss⟩ w ⟨q, rfl, hq⟩ hf
  rw [he] at this
  exact this

theorem new_fit (n : Int) : FitR (newS n).1 := by
  unfold newS
  cases h : slotsB n
  · simp only [Bool.false_eq_true, ↓reduceIte]; exact fitR_zero
  · simp only [↓reduceIte]
    have := slotsB_cases h
    refine fitR_small ?_
    simp only [List.length_replicate]
    omega
theorem reserve_fit {R : Rg} (hf : FitR R) (k : Int) : FitR (reserveS R k).1 := by
  unfold reserveS
  split
  · split
    · exact hf
    · exact fitR_zero
  · exact fitR_zero
theorem free_fit {R : Rg} (hf : FitR R) (p : Int) : FitR (freeS R p).1 := by
  unfold freeS
  split
  · exact hf
  · exact fitR_zero
theorem publish_fit {R : Rg} (hf : FitR R) (p c r a t : Int) : FitR (publishS R p c r a t).1 := by
  unfold publishS
  split
  · unfold FitR
    simp only [List.length_set]
    exact hf
  · exact fitR_zero

end Go.Proofs.Ytgjhbhnfeeleeaa
