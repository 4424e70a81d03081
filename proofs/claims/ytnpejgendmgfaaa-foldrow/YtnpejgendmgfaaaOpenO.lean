/-
  PLAIN GROUND: what a row's reading says of a slice of operations that came in: which it holds, and that they can be copied. No condition.
-/
import Derived.Test.YtnpejgendmgfaaaOpsA
import Derived.ProofKit
import Derived.OpenShut
import Derived.SizedLaws
import Derived.Lib.SmallJoins
import Derived.Deep.Slices
import Derived.Deep.Strs
namespace Go.Proofs.Ytnpejgendmgfaaa
open Go.ChangeShapes Go.WideShapes Go.ChangeAt Go.RowKit Go.Joins Go.Deep

theorem bytesOpO : Try.prog.bytesOf 43 = 24 := by kernel_rfl
theorem cellsOpO : Try.prog.cellsOf 43 = 3 := by kernel_rfl
theorem cellsIntO : Try.prog.cellsOf 3 = 1 := by kernel_rfl

/-- Three cells that read as an operation are three numbers. -/
theorem trod_opr {H : Type} {enc : TypeId × Value → H} {W : World} {n : Nat} {c0 c1 c2 : Value} {y : DataW H × List MemPlace} (h : DataW.trod enc Try.prog W 0 (fun _ => true) true n 43 [c0, c1, c2] = some y) :
    ∃ c r a : Int, c0 = .int .i64 c ∧ c1 = .int .i64 r ∧ c2 = .int .i64 a := by
  obtain ⟨z0, z1, z2, m', _, _, g0, g1, g2⟩ := trod_struct3 Try.underlying43 h
  simp [cellsIntO] at g0 g1 g2
  obtain ⟨c, e0, _, wc⟩ := DataW.trod_int Try.underlying3 g0
  obtain ⟨r, e1, _, wr⟩ := DataW.trod_int Try.underlying3 g1
  obtain ⟨a, e2, _, wa⟩ := DataW.trod_int Try.underlying3 g2
  simp at e0 e1 e2
  exact ⟨c, r, a, e0, e1, e2⟩

/-- A slice of operations, read. -/
theorem open_ops {H : Type} {enc : TypeId × Value → H} {W : World} {n : Nat} {c : Value} {y : DataW H × List MemPlace} (h : DataW.trod enc Try.prog W 0 (fun _ => true) true n 26 [c] = some y)
    (hs : ∀ k ∈ y.1.weights Try.prog 26, k ≤ reachBytes) : ∃ ss, HasO W c ss ∧ ss.length * 24 ≤ 140737488351232 := by
  rcases open_slice Try.underlying26 h with ⟨hcs, _⟩ | ⟨a, len, cap, m, n', D, Pl, hcs, _, hl, hm, hmm, rfl, hx⟩
  · simp at hcs
    subst hcs
    exact ⟨[], HasO.nil _, by decide⟩
  · simp at hcs
    subst hcs
    simp only [if_true] at hmm
    subst hmm
    rw [cellsOpO] at hx
    have hw := hs _ (by simp [DataW.weights, Try.underlying26]; exact Or.inl rfl)
    rw [bytesOpO] at hw
    have each : ∀ i, i < m → ∃ s : Opr, ∀ j, j < 3 → W.cell? ((a.add (i * 3)).add j) = s.vals[j]? := by
      intro i hi
      obtain ⟨cs', h1, h2⟩ := hx i hi
      obtain ⟨_, hlen, hcell⟩ := World.cells?_some h1
      match cs', hlen with
      | [c0, c1, c2], _ =>
        obtain ⟨c, r, a', rfl, rfl, rfl⟩ := trod_opr h2
        exact ⟨⟨c, r, a'⟩, fun j hj => by rw [hcell j (by omega)]; rfl⟩
    have : Inhabited Opr := ⟨Opr.zero⟩
    obtain ⟨s, hsl⟩ := choose_lt each
    refine ⟨(List.range len).map s, ?_, by rw [List.length_map, List.length_range]; simp only [reachBytes] at hw; omega⟩
    have hlen : ((List.range len).map s).length = len := by simp
    refine ⟨some a, m, by rw [hlen], by rw [hlen]; exact hl, (fun h => by cases h), fun hp => ?_⟩
    rw [hlen] at hp ⊢
    obtain ⟨b, off, spot⟩ := a
    have hc := hsl 0 (by omega) 0 (by omega)
    have hspot : spot = none := by simpa [Addr.add] using World.cell?_spot hc
    subst hspot
    refine ⟨b, off, rfl, fun i hi => OprAt.of fun j hj => ?_⟩
    have h1 := hsl i (by omega) j hj
    rw [add_plain, add_plain] at h1
    rw [h1]
    simp [List.getD, hi]

/-- A slice of operations as a parameter, read. -/
theorem open_opsv {H : Type} {enc : TypeId × Value → H} {W : World} {base : Nat} {v : Value} {d : DataW H} {p : List MemPlace} (hv : Value.okWide Try.prog W .any base 26 v)
    (h : DataW.Trod enc Try.prog W 0 (fun _ => true) true 26 v d p) (hs : ∀ k ∈ d.weights Try.prog 26, k ≤ reachBytes) : ∃ ss, HasO W v ss ∧ ss.length * 24 ≤ 140737488351232 := by
  obtain ⟨a, len, cap, rfl⟩ := okWide_slice Try.underlying26 hv
  obtain ⟨fuel, hf⟩ := h
  exact open_ops (y := (d, p)) hf hs

end Go.Proofs.Ytnpejgendmgfaaa
