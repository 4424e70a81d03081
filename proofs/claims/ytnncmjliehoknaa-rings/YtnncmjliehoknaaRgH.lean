/-
  PLAIN GROUND: package ring's contracts, their answers written out. Condition: that the slots can be copied.
-/
import Derived.Test.YtnncmjliehoknaaRgD
import Derived.Test.YtnncmjliehoknaaRgG
namespace Go.Proofs.Ytnncmjliehoknaa
open Go.RowKit

theorem fitR_small {R : Rg} (h : R.ss.length ≤ 100) : FitR R := by unfold FitR; omega

theorem newAs {n h t f er : Int} {ss : List Slt} (he : newS n = (⟨h, t, f, ss⟩, er)) (w : World) :
    Calls Try.prog 18 #[.int .i64 n] w fun e w' => ∃ q : Sl, e = .returned (.tuple #[ringV h t f q, .int .i64 er]) ∧ OwnL w' w.heap.size (slV q) ss ∧ Le w w' := by
  have := ringNew n w
  rw [he] at this
  exact this.mono fun e w' ⟨v', h1, ⟨q, h2, h3⟩, h4⟩ => ⟨q, by rw [h1, h2], h3, h4⟩
theorem reserveAs {h t f k h' t' f' x er : Int} {ss ss' : List Slt} (he : reserveS ⟨h, t, f, ss⟩ k = (⟨h', t', f', ss'⟩, x, er)) (hf : ss.length * 40 ≤ 140737488351232) (q : Sl) (w : World) (hq : HasL w (slV q) ss) :
    Calls Try.prog 10 #[ringV h t f q, .int .i64 k] w fun e w' => ∃ q : Sl, e = .returned (.tuple #[ringV h' t' f' q, .int .i64 x, .int .i64 er]) ∧ OwnL w' w.heap.size (slV q) ss' ∧ Le w w' := by
  have := ringReserve (ringV h t f q) ⟨h, t, f, ss⟩ k w ⟨q, rfl, hq⟩ hf
  rw [he] at this
  exact this.mono fun e w' ⟨v', h1, ⟨q, h2, h3⟩, h4⟩ => ⟨q, by rw [h1, h2], h3, h4⟩
theorem freeAs {h t f p h' t' f' er : Int} {ss ss' : List Slt} (he : freeS ⟨h, t, f, ss⟩ p = (⟨h', t', f', ss'⟩, er)) (hf : ss.length * 40 ≤ 140737488351232) (q : Sl) (w : World) (hq : HasL w (slV q) ss) :
    Calls Try.prog 16 #[ringV h t f q, .int .i64 p] w fun e w' => ∃ q : Sl, e = .returned (.tuple #[ringV h' t' f' q, .int .i64 er]) ∧ OwnL w' w.heap.size (slV q) ss' ∧ Le w w' := by
  have := ringFree (ringV h t f q) ⟨h, t, f, ss⟩ p w ⟨q, rfl, hq⟩ hf
  rw [he] at this
  exact this.mono fun e w' ⟨v', h1, ⟨q, h2, h3⟩, h4⟩ => ⟨q, by rw [h1, h2], h3, h4⟩
theorem publishAs {h t f p c r a th h' t' f' er : Int} {ss ss' : List Slt} (he : publishS ⟨h, t, f, ss⟩ p c r a th = (⟨h', t', f', ss'⟩, er)) (hf : ss.length * 40 ≤ 140737488351232) (q : Sl) (w : World) (hq : HasL w (slV q) ss) :
    Calls Try.prog 12 #[ringV h t f q, .int .i64 p, opV c r a, .int .i64 th] w fun e w' => ∃ q : Sl, e = .returned (.tuple #[ringV h' t' f' q, .int .i64 er]) ∧ OwnL w' w.heap.size (slV q) ss' ∧ Le w w' := by
  have := ringPublish (ringV h t f q) ⟨h, t, f, ss⟩ p c r a th w ⟨q, rfl, hq⟩ hf
  rw [he] at this
  exact this.mono fun e w' ⟨v', h1, ⟨q, h2, h3⟩, h4⟩ => ⟨q, by rw [h1, h2], h3, h4⟩
theorem entryAs {h t f p c r a th b er : Int} {ss : List Slt} (he : entryS ⟨h, t, f, ss⟩ p = (⟨c, r, a, th, b⟩, er)) (hf : ss.length * 40 ≤ 140737488351232) (q : Sl) (w : World) (hq : HasL w (slV q) ss) :
    Calls Try.prog 14 #[ringV h t f q, .int .i64 p] w fun e w' => e = .returned (.tuple #[slotV c r a th b, .int .i64 er]) ∧ Le w w' := by
  have := ringEntry (ringV h t f q) ⟨h, t, f, ss⟩ p w ⟨q, rfl, hq⟩ hf
  rw [he] at this
  exact this
theorem mayAs {h t f : Int} {ss : List Slt} {y : Bool} (he : mayR ⟨h, t, f, ss⟩ = y) (hf : ss.length * 40 ≤ 140737488351232) (q : Sl) (w : World) (hq : HasL w (slV q) ss) :
    Calls Try.prog 22 #[ringV h t f q] w fun e w' => e = .returned (.bool y) ∧ Le w w' := by
  have := ringMay (ringV h t f q) ⟨h, t, f, ss⟩ w ⟨q, rfl, hq⟩ hf
  rw [he] at this
  exact this

end Go.Proofs.Ytnncmjliehoknaa
