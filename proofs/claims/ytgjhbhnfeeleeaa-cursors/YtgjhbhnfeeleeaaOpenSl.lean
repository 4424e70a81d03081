/-
  PLAIN GROUND: what a row's reading says of a slot that came in: five numbers. No condition.
-/
import Derived.Test.YtgjhbhnfeeleeaaSlA
import Derived.ProofKit
import Derived.OpenShut
import Derived.SizedLaws
import Derived.Lib.SmallJoins
namespace Go.Proofs.Ytgjhbhnfeeleeaa
open Go.ChangeShapes Go.WideShapes Go.ChangeAt Go.RowKit Go.Joins Go.Deep

theorem cellsOp : Try.prog.cellsOf 51 = 3 := by kernel_rfl
theorem cellsInt : Try.prog.cellsOf 3 = 1 := by kernel_rfl
theorem cellsSlot : Try.prog.cellsOf 53 = 5 := by kernel_rfl

theorem array5 {α : Type} {cs : Array α} (h : cs.size = 5) : ∃ c0 c1 c2 c3 c4, cs = #[c0, c1, c2, c3, c4] := by
  obtain ⟨l⟩ := cs
  match l, h with
  | [c0, c1, c2, c3, c4], _ => exact ⟨c0, c1, c2, c3, c4, rfl⟩

/-- Five cells that read as a slot are five numbers. -/
theorem trod_slot {H : Type} {enc : TypeId × Value → H} {W : World} {n : Nat} {c0 c1 c2 c3 c4 : Value} {y : DataW H × List MemPlace} (h : DataW.trod enc Try.prog W 0 (fun _ => true) true n 53 [c0, c1, c2, c3, c4] = some y) :
    ∃ c r a t b : Int, c0 = .int .i64 c ∧ c1 = .int .i64 r ∧ c2 = .int .i64 a ∧ c3 = .int .i64 t ∧ c4 = .int .i64 b ∧ (Lit.int .i64 c).wf = true ∧ (Lit.int .i64 r).wf = true ∧ (Lit.int .i64 a).wf = true ∧ (Lit.int .i64 t).wf = true ∧ (Lit.int .i64 b).wf = true := by
  obtain ⟨y0, y1, y2, m, _, _, h0, h1, h2⟩ := trod_struct3 Try.underlying53 h
  simp [cellsOp, cellsInt] at h0 h1 h2
  obtain ⟨z0, z1, z2, m', _, _, g0, g1, g2⟩ := trod_struct3 Try.underlying51 h0
  simp [cellsInt] at g0 g1 g2
  obtain ⟨c, e0, _, wc⟩ := DataW.trod_int Try.underlying3 g0
  obtain ⟨r, e1, _, wr⟩ := DataW.trod_int Try.underlying3 g1
  obtain ⟨a, e2, _, wa⟩ := DataW.trod_int Try.underlying3 g2
  obtain ⟨t, e3, _, wt⟩ := DataW.trod_int Try.underlying3 h1
  obtain ⟨b, e4, _, wb⟩ := DataW.trod_int Try.underlying3 h2
  simp at e0 e1 e2 e3 e4
  exact ⟨c, r, a, t, b, e0, e1, e2, e3, e4, wc, wr, wa, wt, wb⟩

/-- A slot, read. -/
theorem open_slot {H : Type} {enc : TypeId × Value → H} {W : World} {base : Nat} {v : Value} {d : DataW H} {p : List MemPlace} (hv : Value.okWide Try.prog W .any base 53 v)
    (h : DataW.Trod enc Try.prog W 0 (fun _ => true) true 53 v d p) : ∃ c r a t b : Int, v = slotV c r a t b := by
  obtain ⟨cs, rfl, hsz⟩ := okWide_struct Try.underlying53 hv
  obtain ⟨c0, c1, c2, c3, c4, rfl⟩ := array5 (hsz.trans cellsSlot)
  obtain ⟨fuel, hf⟩ := h
  obtain ⟨c, r, a, t, b, rfl, rfl, rfl, rfl, rfl, _⟩ := trod_slot (by simpa [Value.cells] using hf)
  exact ⟨c, r, a, t, b, rfl⟩

end Go.Proofs.Ytgjhbhnfeeleeaa
